/-
  joined: UnS UnQ UnE OnE OnS UnBe UnY OnLd UnCl
-/
import Derived.Test.YtjajafeaengnjaaGreatDoorKUnG
import Derived.Test.YtjajafeaengnjaaGreatDoorAnyInv
import Derived.Test.YtjajafeaengnjaaGreatDoorJUnR
import Derived.Test.YtjajafeaengnjaaGreatDoorJTidy
import Derived.OwnWalk
import Derived.Test.YtjajafeaengnjaaGreatDoorKOnG
set_option linter.unusedSimpArgs false
set_option linter.unusedVariables false
namespace Go.Proofs.YtjajafeaengnjaaGreatDoor
open Go Go.RowKit

theorem infoB6 : (Tryz.prog.info? 4).map (fun i => (i.zero, i.size, i.bytes)) = some (some (.bool false), 1, 1) := by kernel_rfl
theorem infoI6 : (Tryz.prog.info? 21).map (fun i => (i.zero, i.size, i.bytes)) = some (some (.int .i32 0), 1, 4) := by kernel_rfl
theorem infoP6 : (Tryz.prog.info? 156).map (fun i => (i.zero, i.size, i.bytes)) = some (some (.agg #[.int .i32 0, .int .i32 0]), 2, 8) := by kernel_rfl
def upd (L : Nat → Bool) (i : Nat) : Nat → Bool := fun j => j == i || L j
def Mk (w W : World) (g : Nat) (e : TypeId) (z : Value) (m : Nat) : Prop := W.heap[g]? = some (.cells (madeCells #[z] m) e (0, 0)) ∧ w.heap.size ≤ g
theorem Mk.lift {w W W' : World} {g : Nat} {e : TypeId} {z : Value} {m : Nat} (h : Mk w W g e z m) (hb : Below W.heap.size W W') : Mk w W' g e z m := ⟨(hb.block g (Array.getElem?_eq_some_iff.1 h.1).1).trans h.1, h.2⟩
theorem Mk.new {w W : World} (e : TypeId) (z : Value) (m : Nat) (h : w.heap.size ≤ W.heap.size) : Mk w (W.alloc (.cells (madeCells #[z] m) e)) W.heap.size e z m := ⟨World.alloc_heap_new W _, h⟩
/-- the places' row as it is made: one place, room for m more -/
def MkP (w W : World) (g m : Nat) : Prop := W.heap[g]? = some (.cells (madeCells #[.int .i32 0, .int .i32 0] ((m + 1) * 2)) 156 (0, 0)) ∧ w.heap.size ≤ g
theorem made_place (m : Nat) (hm : m ≤ 2147483648) (w : World) :
    (Instr.makeSlice 137 (.int .i64 1) (.int .i64 ((m : Int) + 1))).run Tryz.prog w = .ok (.slice (some ⟨w.heap.size, 0, none⟩) 1 (m + 1)) (w.alloc (.cells (madeCells #[.int .i32 0, .int .i32 0] ((m + 1) * 2)) 156)) := by
  obtain ⟨i, hi, hz, hs, hb⟩ := info_parts infoP6
  have hr := run_make (P := Tryz.prog) w 137 156 i _ Tryz.underlying137 hi hz .i64 .i64 1 ((m : Int) + 1) (by omega) (by omega) (by rw [hb]; omega) (by omega)
  have e1 : ((m : Int) + 1).toNat = m + 1 := by omega
  simp only [e1, hs] at hr
  exact hr
structure Bg (w w1 : World) (v : Int) (s : Value) (N sz n bx : Nat) (L : Nat → Bool) (W : World) (x4 x10 x11 x12 x13 x14 x15 x16 x17 x18 x19 x20 x21 x22 x23 x24 x25 x26 x27 x28 x29 : Value) : Prop where
  bel : Below w1.heap.size w1 W
  f0 : L 0 = true → x10 = .pointer (some ⟨bx, 1, none⟩)
  f1 : L 1 = true → x11 = s
  f2 : L 2 = true → x12 = .int .i64 (n : Int)
  f3 : L 3 = true → ∃ g, x13 = .slice (some ⟨g, 0, none⟩) n n ∧ Mk w W g 4 (.bool false) n
  f4 : L 4 = true → x14 = .pointer (some ⟨bx, 1, none⟩)
  f5 : L 5 = true → x15 = s
  f6 : L 6 = true → x16 = .int .i64 (N : Int)
  f7 : L 7 = true → ∃ g, x17 = .slice (some ⟨g, 0, none⟩) N N ∧ Mk w W g 21 (.int .i32 0) N
  f8 : L 8 = true → x18 = .int .i64 (n : Int)
  f9 : L 9 = true → ∃ g, x19 = .slice (some ⟨g, 0, none⟩) n n ∧ Mk w W g 21 (.int .i32 0) n
  f10 : L 10 = true → x20 = .agg #[.int .i64 v, s]
  f11 : L 11 = true → x21 = .int .i64 (sz : Int)
  f12 : L 12 = true → x22 = .int .i64 ((sz : Int) + 1)
  f13 : L 13 = true → ∃ g, x23 = .slice (some ⟨g, 0, none⟩) 1 (sz + 1) ∧ MkP w W g sz
  f14 : L 14 = true → x24 = .pointer (some ⟨bx, 1, none⟩)
  f15 : L 15 = true → x25 = s
  f16 : L 16 = true → x26 = .int .i64 (N : Int)
  f17 : L 17 = true → ∃ fs, Wq w.heap.size W x27 fs N (fun _ => false)
  f18 : L 18 = true → x28 = .agg #[x11, x13, x17, x19, x23, x27, .slice none 0 0]
  f19 : L 19 = true → ∃ b, x29 = .pointer (some ⟨b, 0, none⟩) ∧ W.heap[b]? = some (.cells #[x11, x13, x17, x19, x23, x27, .slice none 0 0] 141 (0, 0)) ∧ w.heap.size ≤ b
  f20 : L 20 = true → x4 = x29
  f79 : L 7 = true → L 9 = true → x17.ownBlock ≠ x19.ownBlock
  c18 : L 18 = true → L 1 = true ∧ L 3 = true ∧ L 7 = true ∧ L 9 = true ∧ L 13 = true ∧ L 17 = true
  c19 : L 19 = true → L 18 = true
  c20 : L 20 = true → L 19 = true
theorem Bg.lift {w w1 : World} {v : Int} {s : Value} {N sz n bx : Nat} {L : Nat → Bool} {W W' : World} {x4 x10 x11 x12 x13 x14 x15 x16 x17 x18 x19 x20 x21 x22 x23 x24 x25 x26 x27 x28 x29 : Value} (h : Bg w w1 v s N sz n bx L W x4 x10 x11 x12 x13 x14 x15 x16 x17 x18 x19 x20 x21 x22 x23 x24 x25 x26 x27 x28 x29) (hb : Below W.heap.size W W') : Bg w w1 v s N sz n bx L W' x4 x10 x11 x12 x13 x14 x15 x16 x17 x18 x19 x20 x21 x22 x23 x24 x25 x26 x27 x28 x29 :=
  ⟨Below.step h.bel hb, h.f0, h.f1, h.f2, fun hl => by obtain ⟨g, e, m⟩ := h.f3 hl; exact ⟨g, e, m.lift hb⟩, h.f4, h.f5, h.f6, fun hl => by obtain ⟨g, e, m⟩ := h.f7 hl; exact ⟨g, e, m.lift hb⟩, h.f8, fun hl => by obtain ⟨g, e, m⟩ := h.f9 hl; exact ⟨g, e, m.lift hb⟩, h.f10, h.f11, h.f12, fun hl => by obtain ⟨g, e, m1, m2⟩ := h.f13 hl; exact ⟨g, e, (hb.block g (Array.getElem?_eq_some_iff.1 m1).1).trans m1, m2⟩, h.f14, h.f15, h.f16, fun hl => by obtain ⟨fs, m⟩ := h.f17 hl; exact ⟨fs, m.below hb⟩, h.f18, fun hl => by obtain ⟨b, e, m1, m2⟩ := h.f19 hl; exact ⟨b, e, (hb.block b (Array.getElem?_eq_some_iff.1 m1).1).trans m1, m2⟩, h.f20, h.f79, h.c18, h.c19, h.c20⟩
def BgI (w w1 : World) (v : Int) (s : Value) (N sz n bx : Nat) (y7 y8 y9 : Value) (listed : Array Bool) (a : Act) (W : World) : Prop :=
  listed.size = 21 ∧ ∃ L : Nat → Bool, (∀ j, j < 21 → listed.getD j false = L j) ∧ ∃ x4 x10 x11 x12 x13 x14 x15 x16 x17 x18 x19 x20 x21 x22 x23 x24 x25 x26 x27 x28 x29 : Value, a = ({ tmps := #[.agg #[.int .i64 v, s], .pointer (some ⟨bx, 0, none⟩), .pointer none, .int .i64 (n : Int), x4, undef, undef, y7, y8, y9, x10, x11, x12, x13, x14, x15, x16, x17, x18, x19, x20, x21, x22, x23, x24, x25, x26, x27, x28, x29, undef, undef, undef, undef, undef, undef, undef, undef, undef, undef, undef, undef, undef, undef, undef], defers := [] } : Act) ∧ Bg w w1 v s N sz n bx L W x4 x10 x11 x12 x13 x14 x15 x16 x17 x18 x19 x20 x21 x22 x23 x24 x25 x26 x27 x28 x29
theorem lnk {listed : Array Bool} {L : Nat → Bool} (hs : listed.size = 21) (h : ∀ j, j < 21 → listed.getD j false = L j) {i : Nat} (hi : i < 21) : (listed.setIfInBounds i true).size = 21 ∧ ∀ j, j < 21 → (listed.setIfInBounds i true).getD j false = upd L i j := by
  refine ⟨by simpa using hs, fun j hj => ?_⟩
  rw [set_getD false (by rw [hs]; exact hi), h j hj]
  rfl
theorem Bg.s0 {w w1 : World} {v : Int} {s : Value} {N sz n bx : Nat} {L : Nat → Bool} {W : World} {x4 x10 x11 x12 x13 x14 x15 x16 x17 x18 x19 x20 x21 x22 x23 x24 x25 x26 x27 x28 x29 : Value} (h : Bg w w1 v s N sz n bx L W x4 x10 x11 x12 x13 x14 x15 x16 x17 x18 x19 x20 x21 x22 x23 x24 x25 x26 x27 x28 x29)  : Bg w w1 v s N sz n bx (upd L 0) W x4 (.pointer (some ⟨bx, 1, none⟩)) x11 x12 x13 x14 x15 x16 x17 x18 x19 x20 x21 x22 x23 x24 x25 x26 x27 x28 x29 := by
  have h2 := h.lift (W' := W) (Below.refl _ _)
  exact ⟨h2.bel, fun _ => rfl, h2.f1, h2.f2, h2.f3, h2.f4, h2.f5, h2.f6, h2.f7, h2.f8, h2.f9, h2.f10, h2.f11, h2.f12, h2.f13, h2.f14, h2.f15, h2.f16, h2.f17, h2.f18, h2.f19, h2.f20, h2.f79, h2.c18, h2.c19, h2.c20⟩
theorem Bg.s2 {w w1 : World} {v : Int} {s : Value} {N sz n bx : Nat} {L : Nat → Bool} {W : World} {x4 x10 x11 x12 x13 x14 x15 x16 x17 x18 x19 x20 x21 x22 x23 x24 x25 x26 x27 x28 x29 : Value} (h : Bg w w1 v s N sz n bx L W x4 x10 x11 x12 x13 x14 x15 x16 x17 x18 x19 x20 x21 x22 x23 x24 x25 x26 x27 x28 x29)  : Bg w w1 v s N sz n bx (upd L 2) W x4 x10 x11 (.int .i64 (n : Int)) x13 x14 x15 x16 x17 x18 x19 x20 x21 x22 x23 x24 x25 x26 x27 x28 x29 := by
  have h2 := h.lift (W' := W) (Below.refl _ _)
  exact ⟨h2.bel, h2.f0, h2.f1, fun _ => rfl, h2.f3, h2.f4, h2.f5, h2.f6, h2.f7, h2.f8, h2.f9, h2.f10, h2.f11, h2.f12, h2.f13, h2.f14, h2.f15, h2.f16, h2.f17, h2.f18, h2.f19, h2.f20, h2.f79, h2.c18, h2.c19, h2.c20⟩
theorem Bg.s4 {w w1 : World} {v : Int} {s : Value} {N sz n bx : Nat} {L : Nat → Bool} {W : World} {x4 x10 x11 x12 x13 x14 x15 x16 x17 x18 x19 x20 x21 x22 x23 x24 x25 x26 x27 x28 x29 : Value} (h : Bg w w1 v s N sz n bx L W x4 x10 x11 x12 x13 x14 x15 x16 x17 x18 x19 x20 x21 x22 x23 x24 x25 x26 x27 x28 x29)  : Bg w w1 v s N sz n bx (upd L 4) W x4 x10 x11 x12 x13 (.pointer (some ⟨bx, 1, none⟩)) x15 x16 x17 x18 x19 x20 x21 x22 x23 x24 x25 x26 x27 x28 x29 := by
  have h2 := h.lift (W' := W) (Below.refl _ _)
  exact ⟨h2.bel, h2.f0, h2.f1, h2.f2, h2.f3, fun _ => rfl, h2.f5, h2.f6, h2.f7, h2.f8, h2.f9, h2.f10, h2.f11, h2.f12, h2.f13, h2.f14, h2.f15, h2.f16, h2.f17, h2.f18, h2.f19, h2.f20, h2.f79, h2.c18, h2.c19, h2.c20⟩
theorem Bg.s5 {w w1 : World} {v : Int} {s : Value} {N sz n bx : Nat} {L : Nat → Bool} {W : World} {x4 x10 x11 x12 x13 x14 x15 x16 x17 x18 x19 x20 x21 x22 x23 x24 x25 x26 x27 x28 x29 : Value} (h : Bg w w1 v s N sz n bx L W x4 x10 x11 x12 x13 x14 x15 x16 x17 x18 x19 x20 x21 x22 x23 x24 x25 x26 x27 x28 x29)  : Bg w w1 v s N sz n bx (upd L 5) W x4 x10 x11 x12 x13 x14 (s) x16 x17 x18 x19 x20 x21 x22 x23 x24 x25 x26 x27 x28 x29 := by
  have h2 := h.lift (W' := W) (Below.refl _ _)
  exact ⟨h2.bel, h2.f0, h2.f1, h2.f2, h2.f3, h2.f4, fun _ => rfl, h2.f6, h2.f7, h2.f8, h2.f9, h2.f10, h2.f11, h2.f12, h2.f13, h2.f14, h2.f15, h2.f16, h2.f17, h2.f18, h2.f19, h2.f20, h2.f79, h2.c18, h2.c19, h2.c20⟩
theorem Bg.s6 {w w1 : World} {v : Int} {s : Value} {N sz n bx : Nat} {L : Nat → Bool} {W : World} {x4 x10 x11 x12 x13 x14 x15 x16 x17 x18 x19 x20 x21 x22 x23 x24 x25 x26 x27 x28 x29 : Value} (h : Bg w w1 v s N sz n bx L W x4 x10 x11 x12 x13 x14 x15 x16 x17 x18 x19 x20 x21 x22 x23 x24 x25 x26 x27 x28 x29)  : Bg w w1 v s N sz n bx (upd L 6) W x4 x10 x11 x12 x13 x14 x15 (.int .i64 (N : Int)) x17 x18 x19 x20 x21 x22 x23 x24 x25 x26 x27 x28 x29 := by
  have h2 := h.lift (W' := W) (Below.refl _ _)
  exact ⟨h2.bel, h2.f0, h2.f1, h2.f2, h2.f3, h2.f4, h2.f5, fun _ => rfl, h2.f7, h2.f8, h2.f9, h2.f10, h2.f11, h2.f12, h2.f13, h2.f14, h2.f15, h2.f16, h2.f17, h2.f18, h2.f19, h2.f20, h2.f79, h2.c18, h2.c19, h2.c20⟩
theorem Bg.s8 {w w1 : World} {v : Int} {s : Value} {N sz n bx : Nat} {L : Nat → Bool} {W : World} {x4 x10 x11 x12 x13 x14 x15 x16 x17 x18 x19 x20 x21 x22 x23 x24 x25 x26 x27 x28 x29 : Value} (h : Bg w w1 v s N sz n bx L W x4 x10 x11 x12 x13 x14 x15 x16 x17 x18 x19 x20 x21 x22 x23 x24 x25 x26 x27 x28 x29)  : Bg w w1 v s N sz n bx (upd L 8) W x4 x10 x11 x12 x13 x14 x15 x16 x17 (.int .i64 (n : Int)) x19 x20 x21 x22 x23 x24 x25 x26 x27 x28 x29 := by
  have h2 := h.lift (W' := W) (Below.refl _ _)
  exact ⟨h2.bel, h2.f0, h2.f1, h2.f2, h2.f3, h2.f4, h2.f5, h2.f6, h2.f7, fun _ => rfl, h2.f9, h2.f10, h2.f11, h2.f12, h2.f13, h2.f14, h2.f15, h2.f16, h2.f17, h2.f18, h2.f19, h2.f20, h2.f79, h2.c18, h2.c19, h2.c20⟩
theorem Bg.s10 {w w1 : World} {v : Int} {s : Value} {N sz n bx : Nat} {L : Nat → Bool} {W : World} {x4 x10 x11 x12 x13 x14 x15 x16 x17 x18 x19 x20 x21 x22 x23 x24 x25 x26 x27 x28 x29 : Value} (h : Bg w w1 v s N sz n bx L W x4 x10 x11 x12 x13 x14 x15 x16 x17 x18 x19 x20 x21 x22 x23 x24 x25 x26 x27 x28 x29)  : Bg w w1 v s N sz n bx (upd L 10) W x4 x10 x11 x12 x13 x14 x15 x16 x17 x18 x19 (.agg #[.int .i64 v, s]) x21 x22 x23 x24 x25 x26 x27 x28 x29 := by
  have h2 := h.lift (W' := W) (Below.refl _ _)
  exact ⟨h2.bel, h2.f0, h2.f1, h2.f2, h2.f3, h2.f4, h2.f5, h2.f6, h2.f7, h2.f8, h2.f9, fun _ => rfl, h2.f11, h2.f12, h2.f13, h2.f14, h2.f15, h2.f16, h2.f17, h2.f18, h2.f19, h2.f20, h2.f79, h2.c18, h2.c19, h2.c20⟩
theorem Bg.s12 {w w1 : World} {v : Int} {s : Value} {N sz n bx : Nat} {L : Nat → Bool} {W : World} {x4 x10 x11 x12 x13 x14 x15 x16 x17 x18 x19 x20 x21 x22 x23 x24 x25 x26 x27 x28 x29 : Value} (h : Bg w w1 v s N sz n bx L W x4 x10 x11 x12 x13 x14 x15 x16 x17 x18 x19 x20 x21 x22 x23 x24 x25 x26 x27 x28 x29)  : Bg w w1 v s N sz n bx (upd L 12) W x4 x10 x11 x12 x13 x14 x15 x16 x17 x18 x19 x20 x21 (.int .i64 ((sz : Int) + 1)) x23 x24 x25 x26 x27 x28 x29 := by
  have h2 := h.lift (W' := W) (Below.refl _ _)
  exact ⟨h2.bel, h2.f0, h2.f1, h2.f2, h2.f3, h2.f4, h2.f5, h2.f6, h2.f7, h2.f8, h2.f9, h2.f10, h2.f11, fun _ => rfl, h2.f13, h2.f14, h2.f15, h2.f16, h2.f17, h2.f18, h2.f19, h2.f20, h2.f79, h2.c18, h2.c19, h2.c20⟩
theorem Bg.s14 {w w1 : World} {v : Int} {s : Value} {N sz n bx : Nat} {L : Nat → Bool} {W : World} {x4 x10 x11 x12 x13 x14 x15 x16 x17 x18 x19 x20 x21 x22 x23 x24 x25 x26 x27 x28 x29 : Value} (h : Bg w w1 v s N sz n bx L W x4 x10 x11 x12 x13 x14 x15 x16 x17 x18 x19 x20 x21 x22 x23 x24 x25 x26 x27 x28 x29)  : Bg w w1 v s N sz n bx (upd L 14) W x4 x10 x11 x12 x13 x14 x15 x16 x17 x18 x19 x20 x21 x22 x23 (.pointer (some ⟨bx, 1, none⟩)) x25 x26 x27 x28 x29 := by
  have h2 := h.lift (W' := W) (Below.refl _ _)
  exact ⟨h2.bel, h2.f0, h2.f1, h2.f2, h2.f3, h2.f4, h2.f5, h2.f6, h2.f7, h2.f8, h2.f9, h2.f10, h2.f11, h2.f12, h2.f13, fun _ => rfl, h2.f15, h2.f16, h2.f17, h2.f18, h2.f19, h2.f20, h2.f79, h2.c18, h2.c19, h2.c20⟩
theorem Bg.s15 {w w1 : World} {v : Int} {s : Value} {N sz n bx : Nat} {L : Nat → Bool} {W : World} {x4 x10 x11 x12 x13 x14 x15 x16 x17 x18 x19 x20 x21 x22 x23 x24 x25 x26 x27 x28 x29 : Value} (h : Bg w w1 v s N sz n bx L W x4 x10 x11 x12 x13 x14 x15 x16 x17 x18 x19 x20 x21 x22 x23 x24 x25 x26 x27 x28 x29)  : Bg w w1 v s N sz n bx (upd L 15) W x4 x10 x11 x12 x13 x14 x15 x16 x17 x18 x19 x20 x21 x22 x23 x24 (s) x26 x27 x28 x29 := by
  have h2 := h.lift (W' := W) (Below.refl _ _)
  exact ⟨h2.bel, h2.f0, h2.f1, h2.f2, h2.f3, h2.f4, h2.f5, h2.f6, h2.f7, h2.f8, h2.f9, h2.f10, h2.f11, h2.f12, h2.f13, h2.f14, fun _ => rfl, h2.f16, h2.f17, h2.f18, h2.f19, h2.f20, h2.f79, h2.c18, h2.c19, h2.c20⟩
theorem Bg.s16 {w w1 : World} {v : Int} {s : Value} {N sz n bx : Nat} {L : Nat → Bool} {W : World} {x4 x10 x11 x12 x13 x14 x15 x16 x17 x18 x19 x20 x21 x22 x23 x24 x25 x26 x27 x28 x29 : Value} (h : Bg w w1 v s N sz n bx L W x4 x10 x11 x12 x13 x14 x15 x16 x17 x18 x19 x20 x21 x22 x23 x24 x25 x26 x27 x28 x29)  : Bg w w1 v s N sz n bx (upd L 16) W x4 x10 x11 x12 x13 x14 x15 x16 x17 x18 x19 x20 x21 x22 x23 x24 x25 (.int .i64 (N : Int)) x27 x28 x29 := by
  have h2 := h.lift (W' := W) (Below.refl _ _)
  exact ⟨h2.bel, h2.f0, h2.f1, h2.f2, h2.f3, h2.f4, h2.f5, h2.f6, h2.f7, h2.f8, h2.f9, h2.f10, h2.f11, h2.f12, h2.f13, h2.f14, h2.f15, fun _ => rfl, h2.f17, h2.f18, h2.f19, h2.f20, h2.f79, h2.c18, h2.c19, h2.c20⟩
theorem Bg.s1 {w w1 : World} {v : Int} {s : Value} {N sz n bx : Nat} {L : Nat → Bool} {W : World} {x4 x10 x11 x12 x13 x14 x15 x16 x17 x18 x19 x20 x21 x22 x23 x24 x25 x26 x27 x28 x29 : Value} (h : Bg w w1 v s N sz n bx L W x4 x10 x11 x12 x13 x14 x15 x16 x17 x18 x19 x20 x21 x22 x23 x24 x25 x26 x27 x28 x29) (q18 : L 18 = false) (q19 : L 19 = false)  : Bg w w1 v s N sz n bx (upd L 1) W x4 x10 (s) x12 x13 x14 x15 x16 x17 x18 x19 x20 x21 x22 x23 x24 x25 x26 x27 x28 x29 := by
  have h2 := h.lift (W' := W) (Below.refl _ _)
  exact ⟨h2.bel, h2.f0, fun _ => rfl, h2.f2, h2.f3, h2.f4, h2.f5, h2.f6, h2.f7, h2.f8, h2.f9, h2.f10, h2.f11, h2.f12, h2.f13, h2.f14, h2.f15, h2.f16, h2.f17, fun hl => absurd (show L 18 = true from hl) (by rw [q18]; decide), fun hl => absurd (show L 19 = true from hl) (by rw [q19]; decide), h2.f20, h2.f79, fun hl => absurd (show L 18 = true from hl) (by rw [q18]; decide), h2.c19, h2.c20⟩
theorem Bg.s3 {w w1 : World} {v : Int} {s : Value} {N sz n bx : Nat} {L : Nat → Bool} {W : World} {x4 x10 x11 x12 x13 x14 x15 x16 x17 x18 x19 x20 x21 x22 x23 x24 x25 x26 x27 x28 x29 : Value} (h : Bg w w1 v s N sz n bx L W x4 x10 x11 x12 x13 x14 x15 x16 x17 x18 x19 x20 x21 x22 x23 x24 x25 x26 x27 x28 x29) (q18 : L 18 = false) (q19 : L 19 = false) (hw : w.heap.size ≤ W.heap.size) : Bg w w1 v s N sz n bx (upd L 3) (W.alloc (.cells (madeCells #[.bool false] n) 4)) x4 x10 x11 x12 (.slice (some ⟨W.heap.size, 0, none⟩) n n) x14 x15 x16 x17 x18 x19 x20 x21 x22 x23 x24 x25 x26 x27 x28 x29 := by
  have h2 := h.lift (W' := (W.alloc (.cells (madeCells #[.bool false] n) 4))) (below_box _ _)
  exact ⟨h2.bel, h2.f0, h2.f1, h2.f2, fun _ => ⟨_, rfl, Mk.new _ _ _ hw⟩, h2.f4, h2.f5, h2.f6, h2.f7, h2.f8, h2.f9, h2.f10, h2.f11, h2.f12, h2.f13, h2.f14, h2.f15, h2.f16, h2.f17, fun hl => absurd (show L 18 = true from hl) (by rw [q18]; decide), fun hl => absurd (show L 19 = true from hl) (by rw [q19]; decide), h2.f20, h2.f79, fun hl => absurd (show L 18 = true from hl) (by rw [q18]; decide), h2.c19, h2.c20⟩
theorem Bg.s7 {w w1 : World} {v : Int} {s : Value} {N sz n bx : Nat} {L : Nat → Bool} {W : World} {x4 x10 x11 x12 x13 x14 x15 x16 x17 x18 x19 x20 x21 x22 x23 x24 x25 x26 x27 x28 x29 : Value} (h : Bg w w1 v s N sz n bx L W x4 x10 x11 x12 x13 x14 x15 x16 x17 x18 x19 x20 x21 x22 x23 x24 x25 x26 x27 x28 x29) (q18 : L 18 = false) (q19 : L 19 = false) (hw : w.heap.size ≤ W.heap.size) : Bg w w1 v s N sz n bx (upd L 7) (W.alloc (.cells (madeCells #[.int .i32 0] N) 21)) x4 x10 x11 x12 x13 x14 x15 x16 (.slice (some ⟨W.heap.size, 0, none⟩) N N) x18 x19 x20 x21 x22 x23 x24 x25 x26 x27 x28 x29 := by
  have h2 := h.lift (W' := (W.alloc (.cells (madeCells #[.int .i32 0] N) 21))) (below_box _ _)
  exact ⟨h2.bel, h2.f0, h2.f1, h2.f2, h2.f3, h2.f4, h2.f5, h2.f6, fun _ => ⟨_, rfl, Mk.new _ _ _ hw⟩, h2.f8, h2.f9, h2.f10, h2.f11, h2.f12, h2.f13, h2.f14, h2.f15, h2.f16, h2.f17, fun hl => absurd (show L 18 = true from hl) (by rw [q18]; decide), fun hl => absurd (show L 19 = true from hl) (by rw [q19]; decide), h2.f20, fun _ hl e => by obtain ⟨g, eg, m⟩ := h.f9 (show L 9 = true from hl); subst eg; have := (Array.getElem?_eq_some_iff.1 m.1).1; simp [Value.ownBlock] at e; omega, fun hl => absurd (show L 18 = true from hl) (by rw [q18]; decide), h2.c19, h2.c20⟩
theorem Bg.s9 {w w1 : World} {v : Int} {s : Value} {N sz n bx : Nat} {L : Nat → Bool} {W : World} {x4 x10 x11 x12 x13 x14 x15 x16 x17 x18 x19 x20 x21 x22 x23 x24 x25 x26 x27 x28 x29 : Value} (h : Bg w w1 v s N sz n bx L W x4 x10 x11 x12 x13 x14 x15 x16 x17 x18 x19 x20 x21 x22 x23 x24 x25 x26 x27 x28 x29) (q18 : L 18 = false) (q19 : L 19 = false) (hw : w.heap.size ≤ W.heap.size) : Bg w w1 v s N sz n bx (upd L 9) (W.alloc (.cells (madeCells #[.int .i32 0] n) 21)) x4 x10 x11 x12 x13 x14 x15 x16 x17 x18 (.slice (some ⟨W.heap.size, 0, none⟩) n n) x20 x21 x22 x23 x24 x25 x26 x27 x28 x29 := by
  have h2 := h.lift (W' := (W.alloc (.cells (madeCells #[.int .i32 0] n) 21))) (below_box _ _)
  exact ⟨h2.bel, h2.f0, h2.f1, h2.f2, h2.f3, h2.f4, h2.f5, h2.f6, h2.f7, h2.f8, fun _ => ⟨_, rfl, Mk.new _ _ _ hw⟩, h2.f10, h2.f11, h2.f12, h2.f13, h2.f14, h2.f15, h2.f16, h2.f17, fun hl => absurd (show L 18 = true from hl) (by rw [q18]; decide), fun hl => absurd (show L 19 = true from hl) (by rw [q19]; decide), h2.f20, fun hl _ e => by obtain ⟨g, eg, m⟩ := h.f7 (show L 7 = true from hl); subst eg; have := (Array.getElem?_eq_some_iff.1 m.1).1; simp [Value.ownBlock] at e; omega, fun hl => absurd (show L 18 = true from hl) (by rw [q18]; decide), h2.c19, h2.c20⟩
theorem Bg.s11 {w w1 : World} {v : Int} {s : Value} {N sz n bx : Nat} {L : Nat → Bool} {W : World} {x4 x10 x11 x12 x13 x14 x15 x16 x17 x18 x19 x20 x21 x22 x23 x24 x25 x26 x27 x28 x29 : Value} (h : Bg w w1 v s N sz n bx L W x4 x10 x11 x12 x13 x14 x15 x16 x17 x18 x19 x20 x21 x22 x23 x24 x25 x26 x27 x28 x29) {W2 : World} (hb : Below W.heap.size W W2) : Bg w w1 v s N sz n bx (upd L 11) W2 x4 x10 x11 x12 x13 x14 x15 x16 x17 x18 x19 x20 (.int .i64 (sz : Int)) x22 x23 x24 x25 x26 x27 x28 x29 := by
  have h2 := h.lift (W' := W2) hb
  exact ⟨h2.bel, h2.f0, h2.f1, h2.f2, h2.f3, h2.f4, h2.f5, h2.f6, h2.f7, h2.f8, h2.f9, h2.f10, fun _ => rfl, h2.f12, h2.f13, h2.f14, h2.f15, h2.f16, h2.f17, h2.f18, h2.f19, h2.f20, h2.f79, h2.c18, h2.c19, h2.c20⟩
theorem Bg.s13 {w w1 : World} {v : Int} {s : Value} {N sz n bx : Nat} {L : Nat → Bool} {W : World} {x4 x10 x11 x12 x13 x14 x15 x16 x17 x18 x19 x20 x21 x22 x23 x24 x25 x26 x27 x28 x29 : Value} (h : Bg w w1 v s N sz n bx L W x4 x10 x11 x12 x13 x14 x15 x16 x17 x18 x19 x20 x21 x22 x23 x24 x25 x26 x27 x28 x29) (q18 : L 18 = false) (q19 : L 19 = false) (hw : w.heap.size ≤ W.heap.size) : Bg w w1 v s N sz n bx (upd L 13) (W.alloc (.cells (madeCells #[.int .i32 0, .int .i32 0] ((sz + 1) * 2)) 156)) x4 x10 x11 x12 x13 x14 x15 x16 x17 x18 x19 x20 x21 x22 (.slice (some ⟨W.heap.size, 0, none⟩) 1 (sz + 1)) x24 x25 x26 x27 x28 x29 := by
  have h2 := h.lift (W' := (W.alloc (.cells (madeCells #[.int .i32 0, .int .i32 0] ((sz + 1) * 2)) 156))) (below_box _ _)
  exact ⟨h2.bel, h2.f0, h2.f1, h2.f2, h2.f3, h2.f4, h2.f5, h2.f6, h2.f7, h2.f8, h2.f9, h2.f10, h2.f11, h2.f12, fun _ => ⟨_, rfl, World.alloc_heap_new W _, hw⟩, h2.f14, h2.f15, h2.f16, h2.f17, fun hl => absurd (show L 18 = true from hl) (by rw [q18]; decide), fun hl => absurd (show L 19 = true from hl) (by rw [q19]; decide), h2.f20, h2.f79, fun hl => absurd (show L 18 = true from hl) (by rw [q18]; decide), h2.c19, h2.c20⟩
theorem Bg.s17 {w w1 : World} {v : Int} {s : Value} {N sz n bx : Nat} {L : Nat → Bool} {W : World} {x4 x10 x11 x12 x13 x14 x15 x16 x17 x18 x19 x20 x21 x22 x23 x24 x25 x26 x27 x28 x29 : Value} (h : Bg w w1 v s N sz n bx L W x4 x10 x11 x12 x13 x14 x15 x16 x17 x18 x19 x20 x21 x22 x23 x24 x25 x26 x27 x28 x29) (q18 : L 18 = false) (q19 : L 19 = false) {W2 : World} {u : Value} {fs : List Value} (hb : Below W.heap.size W W2) (hq : Wq w.heap.size W2 u fs N (fun _ => false)) : Bg w w1 v s N sz n bx (upd L 17) W2 x4 x10 x11 x12 x13 x14 x15 x16 x17 x18 x19 x20 x21 x22 x23 x24 x25 x26 (u) x28 x29 := by
  have h2 := h.lift (W' := W2) hb
  exact ⟨h2.bel, h2.f0, h2.f1, h2.f2, h2.f3, h2.f4, h2.f5, h2.f6, h2.f7, h2.f8, h2.f9, h2.f10, h2.f11, h2.f12, h2.f13, h2.f14, h2.f15, h2.f16, fun _ => ⟨fs, hq⟩, fun hl => absurd (show L 18 = true from hl) (by rw [q18]; decide), fun hl => absurd (show L 19 = true from hl) (by rw [q19]; decide), h2.f20, h2.f79, fun hl => absurd (show L 18 = true from hl) (by rw [q18]; decide), h2.c19, h2.c20⟩
theorem Bg.s18 {w w1 : World} {v : Int} {s : Value} {N sz n bx : Nat} {L : Nat → Bool} {W : World} {x4 x10 x11 x12 x13 x14 x15 x16 x17 x18 x19 x20 x21 x22 x23 x24 x25 x26 x27 x28 x29 : Value} (h : Bg w w1 v s N sz n bx L W x4 x10 x11 x12 x13 x14 x15 x16 x17 x18 x19 x20 x21 x22 x23 x24 x25 x26 x27 x28 x29) (hc : L 1 = true ∧ L 3 = true ∧ L 7 = true ∧ L 9 = true ∧ L 13 = true ∧ L 17 = true) : Bg w w1 v s N sz n bx (upd L 18) W x4 x10 x11 x12 x13 x14 x15 x16 x17 x18 x19 x20 x21 x22 x23 x24 x25 x26 x27 (.agg #[x11, x13, x17, x19, x23, x27, .slice none 0 0]) x29 := by
  have h2 := h.lift (W' := W) (Below.refl _ _)
  exact ⟨h2.bel, h2.f0, h2.f1, h2.f2, h2.f3, h2.f4, h2.f5, h2.f6, h2.f7, h2.f8, h2.f9, h2.f10, h2.f11, h2.f12, h2.f13, h2.f14, h2.f15, h2.f16, h2.f17, fun _ => rfl, h2.f19, h2.f20, h2.f79, fun _ => hc, fun _ => rfl, h2.c20⟩
theorem Bg.s19 {w w1 : World} {v : Int} {s : Value} {N sz n bx : Nat} {L : Nat → Bool} {W : World} {x4 x10 x11 x12 x13 x14 x15 x16 x17 x18 x19 x20 x21 x22 x23 x24 x25 x26 x27 x28 x29 : Value} (h : Bg w w1 v s N sz n bx L W x4 x10 x11 x12 x13 x14 x15 x16 x17 x18 x19 x20 x21 x22 x23 x24 x25 x26 x27 x28 x29) (hc : L 18 = true) (q20 : L 20 = false) (hw : w.heap.size ≤ W.heap.size) : Bg w w1 v s N sz n bx (upd L 19) (W.alloc (.cells #[x11, x13, x17, x19, x23, x27, .slice none 0 0] 141)) x4 x10 x11 x12 x13 x14 x15 x16 x17 x18 x19 x20 x21 x22 x23 x24 x25 x26 x27 x28 (.pointer (some ⟨W.heap.size, 0, none⟩)) := by
  have h2 := h.lift (W' := (W.alloc (.cells #[x11, x13, x17, x19, x23, x27, .slice none 0 0] 141))) (below_box _ _)
  exact ⟨h2.bel, h2.f0, h2.f1, h2.f2, h2.f3, h2.f4, h2.f5, h2.f6, h2.f7, h2.f8, h2.f9, h2.f10, h2.f11, h2.f12, h2.f13, h2.f14, h2.f15, h2.f16, h2.f17, h2.f18, fun _ => ⟨_, rfl, World.alloc_heap_new W _, hw⟩, fun hl => absurd (show L 20 = true from hl) (by rw [q20]; decide), h2.f79, h2.c18, fun _ => hc, fun _ => rfl⟩
theorem Bg.s20 {w w1 : World} {v : Int} {s : Value} {N sz n bx : Nat} {L : Nat → Bool} {W : World} {x4 x10 x11 x12 x13 x14 x15 x16 x17 x18 x19 x20 x21 x22 x23 x24 x25 x26 x27 x28 x29 : Value} (h : Bg w w1 v s N sz n bx L W x4 x10 x11 x12 x13 x14 x15 x16 x17 x18 x19 x20 x21 x22 x23 x24 x25 x26 x27 x28 x29) (hc : L 19 = true) : Bg w w1 v s N sz n bx (upd L 20) W (x29) x10 x11 x12 x13 x14 x15 x16 x17 x18 x19 x20 x21 x22 x23 x24 x25 x26 x27 x28 x29 := by
  have h2 := h.lift (W' := W) (Below.refl _ _)
  exact ⟨h2.bel, h2.f0, h2.f1, h2.f2, h2.f3, h2.f4, h2.f5, h2.f6, h2.f7, h2.f8, h2.f9, h2.f10, h2.f11, h2.f12, h2.f13, h2.f14, h2.f15, h2.f16, h2.f17, h2.f18, h2.f19, fun _ => rfl, h2.f79, h2.c18, h2.c19, fun _ => hc⟩
theorem Bg.q18 {w w1 : World} {v : Int} {s : Value} {N sz n bx : Nat} {L : Nat → Bool} {W : World} {x4 x10 x11 x12 x13 x14 x15 x16 x17 x18 x19 x20 x21 x22 x23 x24 x25 x26 x27 x28 x29 : Value} (h : Bg w w1 v s N sz n bx L W x4 x10 x11 x12 x13 x14 x15 x16 x17 x18 x19 x20 x21 x22 x23 x24 x25 x26 x27 x28 x29) (hi : L 1 = false ∨ L 3 = false ∨ L 7 = false ∨ L 9 = false ∨ L 13 = false ∨ L 17 = false) : L 18 = false ∧ L 19 = false := by
  have h1 : L 18 = false := by
    cases e : L 18
    · rfl
    · obtain ⟨a, b, c, d, f, g⟩ := h.c18 e
      rcases hi with i | i | i | i | i | i
      · rw [a] at i; cases i
      · rw [b] at i; cases i
      · rw [c] at i; cases i
      · rw [d] at i; cases i
      · rw [f] at i; cases i
      · rw [g] at i; cases i
  refine ⟨h1, ?_⟩
  cases e : L 19
  · rfl
  · rw [h.c19 e] at h1; cases h1
theorem Bg.q20 {w w1 : World} {v : Int} {s : Value} {N sz n bx : Nat} {L : Nat → Bool} {W : World} {x4 x10 x11 x12 x13 x14 x15 x16 x17 x18 x19 x20 x21 x22 x23 x24 x25 x26 x27 x28 x29 : Value} (h : Bg w w1 v s N sz n bx L W x4 x10 x11 x12 x13 x14 x15 x16 x17 x18 x19 x20 x21 x22 x23 x24 x25 x26 x27 x28 x29) (hi : L 19 = false) : L 20 = false := by
  cases e : L 20
  · rfl
  · rw [h.c20 e] at hi; cases hi
theorem getD_ft {listed : Array Bool} {i : Nat} (hs : listed.size = 21) (hi : i < 21) (h : listed.getD i true = false) : listed.getD i false = false := by
  have hj : i < listed.size := by omega
  simp [Array.getD, hj] at h ⊢
  exact h
end Go.Proofs.YtjajafeaengnjaaGreatDoor
set_option linter.unusedSimpArgs false
set_option linter.unusedVariables false
namespace Go.Proofs.YtjajafeaengnjaaGreatDoor
open Go Go.RowKit

theorem wq_base {B B' : Nat} {W : World} {v : Value} {fs : List Value} {N : Nat} {Q : Nat → Bool} (h : Wq B W v fs N Q) (hb : B' ≤ B) : Wq B' W v fs N Q := by
  obtain ⟨Ls, e, hw, hl⟩ := h
  exact ⟨Ls, e, ⟨row_mono hw.row hb, fun c hc => row_mono (hw.lv c hc) hb, hw.ap⟩, hl⟩
/-- how many literals there are -/
def lsum (css : List (List Int)) : Nat := (css.map List.length).sum
theorem back_of {ops : Array Oper} {md : Region.Mode} (h : ((List.range ops.size).all fun j => match ops[j]? with | some o => o.after.all (fun e => decide (e.on < j)) | none => true) = true) : ∀ (j : Nat) o, ops[j]? = some o → ∀ e ∈ o.after, Region.binds md e = true → e.on < j := by
  intro j o ho e he _
  have hj : j < ops.size := (Array.getElem?_eq_some_iff.1 ho).1
  have := List.all_eq_true.1 h j (List.mem_range.2 hj)
  rw [ho] at this
  exact of_decide_eq_true (Array.all_eq_true_iff_forall_mem.1 this e he)
theorem made_two6 (z : Value) (m : Nat) : madeCells #[z, z] m = (List.replicate m z).toArray := by
  apply Array.ext'
  refine List.ext_getElem? fun i => ?_
  by_cases hi : i < m
  · have : i % 2 = 0 ∨ i % 2 = 1 := by omega
    rcases this with h | h <;> simp [madeCells, hi, h]
  · simp [madeCells, hi]
/-- a closing that is being made -/
structure Ce (w0 W : World) (b : Nat) (s : Sz) (n : Nat) (X : List (List Int)) (Q : Nat → Bool) : Prop where
  bel : Below w0.heap.size w0 W
  fit : Fit X n
  z : ∃ F P, Cz w0.heap.size W b s n X.length (inLs n []) (lefts X []) F P Q [] ∧ Pls X n F P ∧ P.length ≤ lsum X + 1
theorem Ce.below {w0 W W' : World} {b : Nat} {s : Sz} {n : Nat} {X : List (List Int)} {Q : Nat → Bool} (h : Ce w0 W b s n X Q) (hb : Below W.heap.size W W') : Ce w0 W' b s n X Q := by
  obtain ⟨F, P, hz, hp⟩ := h.z
  exact ⟨Below.step h.bel hb, h.fit, F, P, hz.below hb, hp⟩
theorem Bg.fin {w w1 : World} {v : Int} {s : Value} {N sz n bx : Nat} {L : Nat → Bool} {W : World} {x4 x10 x11 x12 x13 x14 x15 x16 x17 x18 x19 x20 x21 x22 x23 x24 x25 x26 x27 x28 x29 : Value} (h : Bg w w1 v s N sz n bx L W x4 x10 x11 x12 x13 x14 x15 x16 x17 x18 x19 x20 x21 x22 x23 x24 x25 x26 x27 x28 x29) (hall : ∀ j, j < 21 → L j = true) (hb : Below w.heap.size w w1) (hN : N ≤ 1073741824) (hn : n ≤ 2097152) (hev : n % 2 = 0) (hsz : sz + 1 ≤ maxLen) :
    ∃ b sz, x4 = .pointer (some ⟨b, 0, none⟩) ∧ Ce w W b sz n (List.replicate N []) (fun _ => false) ∧ sz.C = s := by
  have t : ∀ j, j < 21 → L j = true := hall
  obtain ⟨b, e29, hbx, hbb⟩ := h.f19 (t 19 (by decide))
  have e4 := h.f20 (t 20 (by decide))
  have e11 := h.f1 (t 1 (by decide))
  obtain ⟨g3, e13, m3⟩ := h.f3 (t 3 (by decide))
  obtain ⟨g7, e17, m7⟩ := h.f7 (t 7 (by decide))
  obtain ⟨g9, e19, m9⟩ := h.f9 (t 9 (by decide))
  obtain ⟨g13, e23, m13, m13b⟩ := h.f13 (t 13 (by decide))
  obtain ⟨fs, hq⟩ := h.f17 (t 17 (by decide))
  have hne := h.f79 (t 7 (by decide)) (t 9 (by decide))
  have row : ∀ {g : Nat} {e : TypeId} {z : Value} {m : Nat}, Mk w W g e z m → m ≤ maxLen → W.ownsRow w.heap.size e 1 (.slice (some ⟨g, 0, none⟩) m m) m (List.replicate m z) := fun {g e z m} hm hl => by
    refine ⟨by simp, .inr ⟨g, m, _, rfl, hm.2, hm.1, Nat.le_refl _, hl, by rw [made_zero6]; simp, ?_⟩⟩
    rw [made_zero6]; simp
  refine ⟨b, ⟨s, x13, x17, x19, x23, x27, .slice none 0 0, fs⟩, e4.trans e29, ⟨Below.step hb h.bel, ⟨hn, hev, by simpa using hN, fun c hc => ?_, fun c hc l hl => ?_⟩, List.replicate n 0, [(0, 0)], ⟨by rw [← e11]; exact hbx, hbb, ?_, ?_, ?_, ?_, ?_, World.ownsRow_nil _ _ _ _, ?_⟩, ⟨by simp, by simp, fun i p hi => ?_, fun p k q hp hq => ?_⟩, by simp⟩, rfl⟩
  · rw [(List.mem_replicate.1 hc).2]; simp
  · rw [(List.mem_replicate.1 hc).2] at hl; simp at hl
  · have e : (inLs n []).map Value.bool = List.replicate n (.bool false) := by
      unfold inLs; rw [List.map_map]; apply List.ext_getElem (by simp); intro i h1 h2; simp
    rw [e, e13]; exact row m3 (by unfold maxLen; omega)
  · have e : i32s (lefts (List.replicate N []) []) = List.replicate N (.int .i32 0) := by
      unfold i32s lefts; rw [List.map_replicate, List.map_replicate]; simp [cnt_nil]
    rw [e, e17, List.length_replicate]; exact row m7 (by unfold maxLen; omega)
  · have e : i32s ((List.replicate n 0).map fun (x : Nat) => (x : Int)) = List.replicate n (.int .i32 0) := by
      unfold i32s; rw [List.map_replicate, List.map_replicate]; rfl
    rw [e, e19]; exact row m9 (by unfold maxLen; omega)
  · rw [e23]
    refine ⟨by simp [twp], .inr ⟨g13, sz + 1, _, rfl, m13b, m13, by simp, hsz, by simp [size_madeCells], ?_⟩⟩
    rw [made_two6]; simp [twp, List.take_replicate]
    rw [Nat.min_eq_left (by omega)]; rfl
  · rw [List.length_replicate]; exact hq
  · intro k hk hk2
    exact hne (by rw [← hk, ← hk2])
  · have hp : p = 0 := by
      rw [List.getElem?_replicate] at hi
      split at hi
      · injection hi with hi; exact hi.symm
      · cases hi
    subst hp
    refine ⟨by simp, [], .nil, by simp, fun k => ?_⟩
    have : (List.replicate N ([] : List Int)).getD k [] = [] := by
      rw [List.getD_eq_getElem?_getD, List.getElem?_replicate]; split <;> rfl
    rw [this]
    simp
  · have := (List.getElem?_eq_some_iff.1 hq).1
    simp at this
    omega
end Go.Proofs.YtjajafeaengnjaaGreatDoor
set_option linter.unusedSimpArgs false
set_option linter.unusedVariables false
namespace Go.Proofs.YtjajafeaengnjaaGreatDoor
open Go Go.RowKit

theorem lsum_set {X : List (List Int)} {m : Nat} {c : List Int} (hm : m < X.length) : lsum (X.set m c) + (X.getD m []).length = lsum X + c.length := by
  unfold lsum
  induction X generalizing m with
  | nil => simp at hm
  | cons y r ih =>
    cases m with
    | zero => simp; omega
    | succ m =>
      have := ih (m := m) (by simpa using hm)
      simp at this ⊢
      omega
theorem lefts_set {X : List (List Int)} {m : Nat} {c : List Int} : lefts (X.set m c) [] = (lefts X []).set m (cnt [] c : Int) := by unfold lefts; rw [List.map_set]
theorem lefts_at {X : List (List Int)} {m : Nat} (hm : m < X.length) : (lefts X [])[m]? = some (cnt [] (X.getD m []) : Int) := by
  unfold lefts
  rw [List.getElem?_map, List.getElem?_eq_getElem hm, List.getD_eq_getElem?_getD, List.getElem?_eq_getElem hm]; rfl
theorem Fit.set {X : List (List Int)} {n m : Nat} {c : List Int} (h : Fit X n) (hl : c.length ≤ 1073741824) (hc : ∀ l ∈ c, fmd l = true ∧ idx l < n) : Fit (X.set m c) n := by
  refine ⟨h.hn, h.ev, by rw [List.length_set]; exact h.num, fun d hd => ?_, fun d hd l hld => ?_⟩
  · rcases List.mem_or_eq_of_mem_set hd with a | a
    · exact h.len d a
    · rw [a]; exact hl
  · rcases List.mem_or_eq_of_mem_set hd with a | a
    · exact h.lit d a l hld
    · rw [a] at hld; exact hc l hld
/-- the state inside of enter: so many literals of the clause number m are noted -/
structure En6 (w0 w W : World) (b : Nat) (s : Sz) (u : Value) (n : Nat) (X : List (List Int)) (Q : Nat → Bool) : Prop where
  ce : Ce w0 W b { s with P := u } n X Q
  mo : Mo w (s.own b) W (({ s with P := u } : Sz).own b)
theorem En6.below {w0 w W W' : World} {b : Nat} {s : Sz} {u : Value} {n : Nat} {X : List (List Int)} {Q : Nat → Bool} (h : En6 w0 w W b s u n X Q) (hb : Below W.heap.size W W') : En6 w0 w W' b s u n X Q := ⟨h.ce.below hb, h.mo.trans (Mo.below hb)⟩
/-- a literal that was noted already -/
theorem Ce.same {w0 W : World} {b : Nat} {s : Sz} {n m : Nat} {X : List (List Int)} {Q : Nat → Bool} {l : Int} (h : Ce w0 W b s n X Q) (hm : m < X.length) (hl : l ∈ X.getD m []) (hlen : (X.getD m []).length + 1 ≤ 1073741824) (hf : fmd l = true ∧ idx l < n) : Ce w0 W b s n (X.set m (X.getD m [] ++ [l])) Q := by
  obtain ⟨F, P, hz, hp, hP⟩ := h.z
  refine ⟨h.bel, h.fit.set (by simpa using hlen) (fun x hx => ?_), F, P, ?_, hp.same hm hl, ?_⟩
  · rcases List.mem_append.1 hx with a | a
    · exact h.fit.lit _ (getD_in hm) x a
    · rw [show x = l by simpa using a]; exact hf
  · have e : lefts (X.set m (X.getD m [] ++ [l])) [] = lefts X [] := by
      rw [lefts_set, cnt_more, if_pos hl, Nat.add_zero]
      apply List.ext_getElem?
      intro i
      by_cases e : m = i
      · subst e
        rw [List.getElem?_set_self (by simpa [lefts] using hm), lefts_at hm]
      · rw [List.getElem?_set_ne e]
    rw [e, List.length_set]
    exact hz
  · have := lsum_set (c := X.getD m [] ++ [l]) hm
    rw [List.length_append, List.length_singleton] at this
    omega
theorem upto {X : List (List Int)} {m j : Nat} {c : List Int} (hj : j < c.length) (hm : m < X.length) : (X.set m (c.take j)).set m ((X.set m (c.take j)).getD m [] ++ [c.getD j 0]) = X.set m (c.take (j + 1)) := by
  rw [getD_set_self hm, List.set_set, ← take_succ_getD c 0 j hj]

theorem Tryz.infoPlace : (Tryz.prog.info? 156).map (fun i => (i.zero, i.size, i.bytes)) = some (some (.agg #[.int .i32 0, .int .i32 0]), 2, 8) := by kernel_rfl
theorem twp_snoc (P : List (Nat × Nat)) (m p : Nat) : twp (P ++ [(m, p)]) = twp P ++ [.int .i32 (m : Int), .int .i32 (p : Int)] := by simp [twp]

set_option maxRecDepth 100000 in
set_option maxHeartbeats 4000000 in
theorem uEnter_any (w0 : World) (b : Nat) (s : Sz) (n : Nat) (X : List (List Int)) (Q : Nat → Bool) (m : Nat) (v : Value) (c : List Int) (w : World) (h : Ce w0 w b s n X Q) (hr : Rd w0 v c) (hm : m < X.length) (h0 : X.getD m [] = []) (hgt : ∀ k, m < k → X.getD k [] = []) (hc : ∀ l ∈ c, fmd l = true ∧ idx l < n) (hcl : c.length ≤ 1073741824) (hsum : lsum X + c.length ≤ 2147483647) (hq : Q m = false) :
    Calls Tryz.prog 127 #[.pointer (some ⟨b, 0, none⟩), .int .i32 (m : Int), v] w fun e w' => e = .returned (.tuple #[]) ∧ ∃ u Q', En6 w0 w w' b s u n (X.set m c) Q' ∧ ∀ k, Q' k = true ↔ Q k = true ∨ (k = m ∧ cnt [] c ≤ 1) := by
  have HS0 : Hid (En6 w0 w w b s s.P n X Q) := ⟨h, Mo.refl _ _⟩
  have HB0 : Hid (Below w0.heap.size w0 w ∧ ∀ k, s.own b k → w0.heap.size ≤ k) := ⟨h.bel, fun k hk => by obtain ⟨F, P, hz, _⟩ := h.z; exact (hz.lt k hk).1⟩
  have hX0 : X.set m (c.take 0) = X := by
    apply List.ext_getElem?
    intro i
    by_cases e : m = i
    · subst e
      rw [List.getElem?_set_self hm, List.getElem?_eq_getElem hm]
      rw [List.getD_eq_getElem?_getD, List.getElem?_eq_getElem hm] at h0
      simpa using h0.symm
    · rw [List.getElem?_set_ne e]
  have HX0 : Hid (X.set m (c.take 0) = X) := hX0
  obtain ⟨a, cv, rfl, l1, l2, hcell⟩ := hr.form
  have HC : Hid (∀ (W : World) (j : Nat), Below w0.heap.size w0 W → j < c.length → ∃ bb off, a = some ⟨bb, off, none⟩ ∧ W.cell? ⟨bb, off + j, none⟩ = some (.int .i64 (c.getD j 0))) := fun W j hW hj => by
    obtain ⟨bb, off, e, hc⟩ := hcell j hj
    exact ⟨bb, off, e, (hW.cell (p := ⟨bb, off + j, none⟩) (World.block_lt_of_cell? w0 _ hc)).trans hc⟩
  have HX : Hid (m < X.length ∧ (∀ k, m < k → X.getD k [] = []) ∧ (∀ l ∈ c, fmd l = true ∧ idx l < n) ∧ lsum X + c.length ≤ 2147483647 ∧ X.getD m [] = [] ∧ Fit X n) := ⟨hm, hgt, hc, hsum, h0, h.fit⟩
  have hmb : m ≤ 1073741824 := by have := h.fit.num; omega
  have hn := h.fit.hn
  clear h hr hcell hm h0 hgt hc hsum hX0
  go_enter Tryz.func127, Tryz.ntmps127
  go_wp2
  go_loopg [12] c.length (fun g j' wr => ∃ (j : Nat) (u : Value), j + g = c.length ∧ j' = .int .i64 j ∧ En6 w0 w wr b s u n (X.set m (c.take j)) Q)
  case atStart => exact ⟨0, s.P, by omega, rfl, by rw [HX0.out]; exact HS0.out⟩
  case round =>
    obtain ⟨j, u, hj, rfl, hen⟩ := hrel
    have HJ : Hid (j + gk = c.length) := hj
    have HEn : Hid (En6 w0 w wr b s u n (X.set m (c.take j)) Q) := hen
    clear hj hen
    by_cases hlt : j < c.length
    · obtain ⟨bb, off, rfl, kc⟩ := HC.out wr j HEn.out.ce.bel hlt
      have hlf := HX.out.2.2.1 _ (getD_mem' (d := 0) hlt)
      have HUp : Hid ((X.set m (c.take j)).set m ((X.set m (c.take j)).getD m [] ++ [c.getD j 0]) = X.set m (c.take (j + 1))) := upto hlt HX.out.1
      have hmX : m < (X.set m (c.take j)).length := by rw [List.length_set]; exact HX.out.1
      have hgtX : ∀ k, m < k → (X.set m (c.take j)).getD k [] = [] := fun k hk => by rw [getD_set_ne (by omega)]; exact HX.out.2.1 k hk
      have hgm : (X.set m (c.take j)).getD m [] = c.take j := getD_set_self HX.out.1
      have hlsX : lsum (X.set m (c.take j)) = lsum X + j := by
        have := lsum_set (c := c.take j) HX.out.1
        rw [HX.out.2.2.2.2.1, List.length_take, Nat.min_eq_left (by omega)] at this
        simpa using this
      have hlenX : ((X.set m (c.take j)).getD m []).length + 1 ≤ 1073741824 := by rw [hgm, List.length_take]; omega
      have hsumX : lsum (X.set m (c.take j)) + 1 ≤ 2147483647 := by have := HX.out.2.2.2.1; omega
      generalize X.set m (c.take j) = Y at *
      generalize c.getD j 0 = l at *
      have HLT : Hid (j < c.length) := hlt
      obtain ⟨i, hi⟩ : ∃ i : Nat, idx l = i := ⟨(idx l).toNat, by have := idx_range hlf.1; omega⟩
      have hin : i < n := by omega
      obtain ⟨F, P, hz, hp, hP⟩ := HEn.out.ce.z
      obtain ⟨p, hpi⟩ : ∃ p, F[i]? = some p := ⟨_, List.getElem?_eq_getElem (by rw [hp.len]; exact hin)⟩
      have hseen := hp.seen hmX hgtX hlf.1 hi hpi
      have hplt := (hp.ch i p hpi).1
      obtain ⟨gF, cF, eF0, f1, f2, f3⟩ := row_some hz.f (by omega)
      have eF : s.F = .slice (some ⟨gF, 0, none⟩) n cF := eF0
      clear eF0
      have b3 : wr.cell? ⟨b, 3, none⟩ = some s.F := hz.c3
      have rF : wr.ownsRow w0.heap.size 21 1 s.F n (i32s (F.map fun (x : Nat) => (x : Int))) := hz.f
      rw [eF] at b3 rF
      have kF := row_cell rF (j := i) (x := .int .i32 (p : Int)) (by unfold i32s; rw [List.getElem?_map, List.getElem?_map, hpi]; rfl)
      have zF := row_fz rF i
      obtain ⟨gP, cP, eP0, p1, p2, p3⟩ := row_some hz.p (by have := hp.pos; omega)
      have eP : u = .slice (some ⟨gP, 0, none⟩) P.length cP := eP0
      clear eP0
      have b4 : wr.cell? ⟨b, 4, none⟩ = some u := hz.c4
      have rP : wr.ownsRow w0.heap.size 156 2 u P.length (twp P) := hz.p
      rw [eP] at b4 rP
      have hPb : P.length ≤ 2147483647 := by omega
      have HI : Hid (idx l = i) := hi
      by_cases hsn : l ∈ Y.getD m []
      · obtain ⟨q, hp0, hPp⟩ := hseen.1 hsn
        have kP := row_cell rP (twp_at hPp).1
        have HF : Hid (En6 w0 w wr b s u n (X.set m (c.take (j + 1))) Q) := ⟨by rw [← HUp.out]; exact HEn.out.ce.same hmX hsn hlenX hlf, HEn.out.mo⟩
        have hmm : ((m : Int) == (m : Int)) = true := by simp
        clear hz hp hP hseen rF rP hsn hPp hlf eP eF hi hgm hgtX hlsX hlenX hsumX hmX hpi
        generalize P.length = Pn at *
        go_wp2_with fail
        refine (index_any _ _).mono ?_
        rintro e w9 ⟨rfl, hw9⟩
        obtain rfl : wr = w9 := hw9.symm
        rw [HI.out]
        clear hw9
        go_wp2
        go_roundg (gk - 1)
        case measure => have := HJ.out; have := HLT.out; omega
        case rel => exact ⟨j + 1, u, by have := HJ.out; have := HLT.out; omega, by go_num, HF.out⟩
      · have hno : ¬ ∃ q, 0 < p ∧ P[p]? = some (m, q) := fun h2 => hsn (hseen.2 h2)
        have HZ : Hid (Cz w0.heap.size wr b { s with P := u } n Y.length (inLs n []) (lefts Y []) F P Q [] ∧ Pls Y n F P ∧ P.length ≤ lsum Y + 1) := ⟨hz, hp, hP⟩
        have HY : Hid (m < Y.length ∧ (∀ k, m < k → Y.getD k [] = []) ∧ l ∉ Y.getD m [] ∧ fmd l = true ∧ idx l < n ∧ (Y.getD m []).length + 1 ≤ 1073741824 ∧ F[i]? = some p ∧ lsum Y + 1 ≤ 2147483647) := ⟨hmX, hgtX, hsn, hlf.1, hlf.2, hlenX, hpi, hsumX⟩
        have HEF : Hid (s.F = .slice (some ⟨gF, 0, none⟩) n cF) := eF
        have HEP : Hid (u = .slice (some ⟨gP, 0, none⟩) P.length cP) := eP
        obtain ⟨i0, hi0, hz0, hz1, hz2⟩ := info_parts Tryz.infoPlace
        have HInf : Hid (Tryz.prog.info? 156 = some i0 ∧ i0.zero = some (.agg #[.int .i32 0, .int .i32 0]) ∧ i0.size = 2 ∧ i0.bytes = 8) := ⟨hi0, hz0, hz1, hz2⟩
        have HFz : Hid (∀ W, Below wr.heap.size wr W → W.frozen? ⟨b, 4, none⟩ = false) := fun W hW => (hz.below hW).fz 4
        have z4 := hz.fz 4
        have b4a : (wr.alloc (.cells #[.int .i32 (m : Int), .int .i32 (p : Int)] 156)).cell? ⟨b, 4, none⟩ = some (.slice (some ⟨gP, 0, none⟩) P.length cP) := (World.cell?_alloc_lt _ _ _ (World.block_lt_of_cell? wr _ b4)).trans b4
        -- what the append gives
        have HApp : Hid (∀ v8 w8, w8.ownsRow w0.heap.size 156 2 v8 (P.length + 1) (twp P ++ [.int .i32 (m : Int), .int .i32 (p : Int)]) → Ap (wr.alloc (.cells #[.int .i32 (m : Int), .int .i32 (p : Int)] 156)).drew (.slice (some ⟨gP, 0, none⟩) P.length cP) w8 v8 →
            (∃ a8 c8, v8 = .slice a8 (P.length + 1) c8) ∧ w8.cell? ⟨b, 4, none⟩ = some (.slice (some ⟨gP, 0, none⟩) P.length cP) ∧ w8.frozen? ⟨b, 4, none⟩ = false ∧
            Cz w0.heap.size (w8.setCell ⟨b, 4, none⟩ v8) b { s with P := v8 } n Y.length (inLs n []) (lefts Y []) F (P ++ [(m, p)]) Q [] ∧ Mo w (s.own b) (w8.setCell ⟨b, 4, none⟩ v8) (({ s with P := v8 } : Sz).own b)) := fun v8 w8 own8 ap8 => by
          have bb : Below wr.heap.size wr (wr.alloc (.cells #[.int .i32 (m : Int), .int .i32 (p : Int)] 156)).drew := (below_box _ _).drew
          have hzA := hz.below bb
          have own9 : w8.ownsRow w0.heap.size 156 2 v8 (P ++ [(m, p)]).length (twp (P ++ [(m, p)])) := by
            rw [twp_snoc, List.length_append]; exact own8
          have ap9 : Ap (wr.alloc (.cells #[.int .i32 (m : Int), .int .i32 (p : Int)] 156)).drew u w8 v8 := by rw [eP]; exact ap8
          obtain ⟨z9, m9⟩ := hzA.putP ap9.grown ap9.new own9
          have ht : ∀ x, u.ownBlock = some x → Ty _ x 156 := fun x e => row_ty hzA.p e.symm
          have hbx := box_other hzA.box ap9.grown ht (by decide)
          exact ⟨row_form' own8, by simp [World.cell?, hbx]; exact eP, by simp [World.frozen?, hbx], z9, (HEn.out.mo.trans (Mo.below bb)).trans m9⟩
        have HRow : Hid ((wr.alloc (.cells #[.int .i32 (m : Int), .int .i32 (p : Int)] 156)).drew.ownsRow w0.heap.size 156 2 (.slice (some ⟨gP, 0, none⟩) P.length cP) P.length (twp P) ∧ w0.heap.size ≤ (wr.alloc (.cells #[.int .i32 (m : Int), .int .i32 (p : Int)] 156)).drew.heap.size) := by
          have bb : Below wr.heap.size wr (wr.alloc (.cells #[.int .i32 (m : Int), .int .i32 (p : Int)] 156)).drew := (below_box _ _).drew
          have := (hz.below bb).p
          rw [← eP]
          exact ⟨this, Nat.le_trans HEn.out.ce.bel.size bb.size⟩
        have HNew : Hid (∀ j x, [Value.int .i32 (m : Int), Value.int .i32 (p : Int)][j]? = some x → (wr.alloc (.cells #[.int .i32 (m : Int), .int .i32 (p : Int)] 156)).drew.cell? ((⟨wr.heap.size, 0, none⟩ : Addr).add j) = some x) := fun j x hx => by
          rw [Addr.add_lit]
          have hh : (wr.alloc (.cells #[.int .i32 (m : Int), .int .i32 (p : Int)] 156)).drew.heap[wr.heap.size]? = _ := World.alloc_heap_new wr (.cells #[.int .i32 (m : Int), .int .i32 (p : Int)] 156)
          show (match (wr.alloc (.cells #[.int .i32 (m : Int), .int .i32 (p : Int)] 156)).drew.heap[wr.heap.size]? with | some (Obj.cells c elem frozen) => c[0 + j]? | x => none) = _
          rw [hh]
          simpa using hx
        have hl63 : P.length + 1 ≤ maxLen := by unfold maxLen; omega
        have hl48 : (P.length + 1) * 8 ≤ 140737488355328 := by omega
        have hpc : p = 0 ∨ 0 < p := by omega
        have HPk : Hid (0 < p → ∃ k : Nat, wr.cell? ⟨gP, p * 2, none⟩ = some (.int .i32 (k : Int)) ∧ k ≠ m ∧ k ≤ 1073741824) := fun h0 => by
          obtain ⟨⟨k, q⟩, hkq⟩ : ∃ x, P[p]? = some x := ⟨_, List.getElem?_eq_getElem hplt⟩
          refine ⟨k, row_cell rP (twp_at hkq).1, fun e => hno ⟨q, h0, by rw [hkq, e]⟩, ?_⟩
          have h2 := (hp.num p k q h0 hkq).1
          have h3 := HEn.out.ce.fit.num
          omega
        have HPn : Hid (P.length ≤ 2147483647) := hPb
        clear hz hp hP hseen rF rP hsn hlf eP eF hi hgm hgtX hlsX hlenX hsumX hmX hpi hno hi0 hz0 hz1 hz2
        generalize hPl : P.length = Pn at *
        have HPl : Hid (P.length = Pn) := hPl
        clear hPl
        generalize htw : twp P = tw at *
        clear htw
        go_wp2_with fail
        refine (index_any _ _).mono ?_
        rintro e w9 ⟨rfl, hw9⟩
        obtain rfl : wr = w9 := hw9.symm
        rw [HI.out]
        clear hw9
        rcases hpc with hpc | hpc
        · have hp0 : ¬ 0 < p := by omega
          clear hpc
          go_upto_region 6 with fail
          go_cut [] from 39 to 56 (fun wx => ∃ u2, Cz w0.heap.size wx b { s with P := u2 } n Y.length (inLs n []) (lefts Y []) F (P ++ [(m, p)]) Q [] ∧ Mo w (s.own b) wx (({ s with P := u2 } : Sz).own b))
          case first =>
            go_region_law (refine step_append_apk rfl (.tmp 43) (.tmp 53) 137 rfl w0.heap.size 156 i0 (.agg #[.int .i32 0, .int .i32 0]) 2 8 Tryz.underlying137 HInf.out.1 HInf.out.2.1 HInf.out.2.2.1 HInf.out.2.2.2 rfl (by decide) (.slice (some ⟨gP, 0, none⟩) Pn cP) Pn tw (by simp [Act.eval, Act.put]) HRow.out.1 ⟨wr.heap.size, 0, none⟩ 1 1 [.int .i32 (m : Int), .int .i32 (p : Int)] (by simp [Act.eval, Act.put]) rfl HNew.out (by simp [Value.oneCell']) hl63 hl48 HRow.out.2 ?_; intro v8 w8 own8 ap8; have HF8 : Hid (_ ∧ _) := (HApp.out v8 w8 own8 ap8).2.2.2; obtain ⟨⟨a8, c8, hv8⟩, q1, q2, -⟩ := HApp.out v8 w8 own8 ap8; subst hv8; clear own8 ap8)
            all_goals
              go_wp2_with fail
              go_meet
              exact ⟨_, HF8.out.1, HF8.out.2⟩
          case rest =>
          obtain ⟨u2, hz8, hm8⟩ := hcut
          clear HApp HRow HNew z4 b3 b4 b4a kF zF HFz kc
          generalize wc = w8 at *
          obtain ⟨z9, m9⟩ := hz8.setF HEF.out hin Pn
          have b3 : w8.cell? ⟨b, 3, none⟩ = some s.F := hz8.c3
          have rF : w8.ownsRow w0.heap.size 21 1 s.F n (i32s (F.map fun (x : Nat) => (x : Int))) := hz8.f
          rw [HEF.out] at b3 rF
          have kF := row_cell rF (j := i) (x := .int .i32 (p : Int)) (by unfold i32s; rw [List.getElem?_map, List.getElem?_map, HY.out.2.2.2.2.2.2.1]; rfl)
          have zF := row_fz rF i
          obtain ⟨a4, c4, e4⟩ := row_form' hz8.p
          have e4 : u2 = .slice a4 (Pn + 1) c4 := by rw [← HPl.out]; simpa using e4
          have b4 : w8.cell? ⟨b, 4, none⟩ = some u2 := hz8.c4
          rw [e4] at b4
          have HZ9 : Hid (Cz w0.heap.size (w8.setCell ⟨gF, i, none⟩ (.int .i32 (Pn : Int))) b { s with P := u2 } n Y.length (inLs n []) (lefts Y []) (F.set i Pn) (P ++ [(m, p)]) Q [] ∧ Mo w (s.own b) (w8.setCell ⟨gF, i, none⟩ (.int .i32 (Pn : Int))) (({ s with P := u2 } : Sz).own b)) := ⟨z9, hm8.trans m9⟩
          have hwp : IntKind.i32.wrap (Pn : Int) = (Pn : Int) := by rw [wrap_i32']; omega
          have hwp2 : IntKind.i64.wrap (Pn : Int) = (Pn : Int) := by rw [IntKind.wrap_i64]; omega
          have HE4 : Hid (u2 = .slice a4 (Pn + 1) c4) := e4
          clear hz8 hm8 z9 m9 rF e4
          go_upto_region 7 with fail
          go_cut [] from 57 to 69 (fun wx => Cz w0.heap.size wx b { s with P := u2 } n Y.length (inLs n []) (lefts Y []) (F.set i Pn) (P ++ [(m, p)]) Q [] ∧ Mo w (s.own b) wx (({ s with P := u2 } : Sz).own b))
          case first =>
            go_region_law (fail)
            all_goals
              have HQ : Hid (_ ∧ _) := ⟨HZ9.out.1.below (Below.refl _ _).drew, HZ9.out.2.trans (Mo.below (Below.refl _ _).drew)⟩
              go_wp2_with fail
              go_meet
              exact ⟨HQ.out.1, HQ.out.2⟩
          case rest =>
          obtain ⟨hzA, hmA⟩ := hcut
          clear HZ9 b3 b4 kF zF
          generalize wc = w9 at *
          obtain ⟨gE, cE, eE0, e1, e2, e3⟩ := row_some hzA.e (by have := HY.out.1; omega)
          have eE : s.E = .slice (some ⟨gE, 0, none⟩) Y.length cE := eE0
          clear eE0
          have b2 : w9.cell? ⟨b, 2, none⟩ = some s.E := hzA.c2
          have rE : w9.ownsRow w0.heap.size 21 1 s.E Y.length (i32s (lefts Y [])) := hzA.e
          rw [eE] at b2 rE
          have kE := row_cell rE (j := m) (x := .int .i32 (cnt [] (Y.getD m []) : Int)) (by unfold i32s; rw [List.getElem?_map, lefts_at HY.out.1]; rfl)
          have zE := row_fz rE m
          obtain ⟨zB, mB⟩ := hzA.setE eE HY.out.1 ((cnt [] (Y.getD m []) : Int) + 1)
          have hcb : cnt [] (Y.getD m []) ≤ 1073741824 := Nat.le_trans (cnt_le _ _) (by have := HY.out.2.2.2.2.2.1; omega)
          have hmY := HY.out.1
          have HFin : Hid (En6 w0 w (w9.setCell ⟨gE, m, none⟩ (.int .i32 ((cnt [] (Y.getD m []) : Int) + 1))) b s u2 n (X.set m (c.take (j + 1))) Q) := by
            refine ⟨?_, hmA.trans mB⟩
            rw [← HUp.out]
            have hpl := HZ.out.2.1.add hn HY.out.1 HY.out.2.2.1 HY.out.2.1 HY.out.2.2.2.1 HI.out HY.out.2.2.2.2.2.2.1
            rw [HPl.out] at hpl
            refine ⟨Mo.bel HB0.out.1 HB0.out.2 (hmA.trans mB), HEn.out.ce.fit.set (by simpa using HY.out.2.2.2.2.2.1) (fun x hx => ?_), F.set i Pn, P ++ [(m, p)], ?_, hpl, ?_⟩
            · rcases List.mem_append.1 hx with a | a
              · exact HEn.out.ce.fit.lit _ (getD_in HY.out.1) x a
              · rw [show x = l by simpa using a]; exact ⟨HY.out.2.2.2.1, HY.out.2.2.2.2.1⟩
            · rw [List.length_set, lefts_set, cnt_more, if_neg HY.out.2.2.1]
              have e5 : (((cnt [] (Y.getD m []) + 1 : Nat)) : Int) = (cnt [] (Y.getD m []) : Int) + 1 := by omega
              rw [e5]
              exact zB
            · have h5 := lsum_set (c := Y.getD m [] ++ [l]) HY.out.1
              rw [List.length_append, List.length_singleton] at h5
              have h6 := HZ.out.2.2
              rw [List.length_append, List.length_singleton, HPl.out]
              omega
          clear hzA hmA zB mB rE eE HZ HUp HEn HY
          generalize cnt [] (Y.getD m []) = cm at *
          have hwc : IntKind.i32.wrap ((cm : Int) + 1) = (cm : Int) + 1 := by rw [wrap_i32']; omega
          generalize Y.length = YN at *
          go_wp2
          go_roundg (gk - 1)
          case measure => have := HJ.out; have := HLT.out; omega
          case rel => exact ⟨j + 1, u2, by have := HJ.out; have := HLT.out; omega, by go_num, HFin.out⟩
        · obtain ⟨k, kP, hkm, hkb⟩ := HPk.out hpc
          have hkm2 : ((k : Int) == (m : Int)) = false := by simp; omega
          go_upto_region 6 with fail
          go_cut [] from 39 to 56 (fun wx => ∃ u2, Cz w0.heap.size wx b { s with P := u2 } n Y.length (inLs n []) (lefts Y []) F (P ++ [(m, p)]) Q [] ∧ Mo w (s.own b) wx (({ s with P := u2 } : Sz).own b))
          case first =>
            go_region_law (refine step_append_apk rfl (.tmp 43) (.tmp 53) 137 rfl w0.heap.size 156 i0 (.agg #[.int .i32 0, .int .i32 0]) 2 8 Tryz.underlying137 HInf.out.1 HInf.out.2.1 HInf.out.2.2.1 HInf.out.2.2.2 rfl (by decide) (.slice (some ⟨gP, 0, none⟩) Pn cP) Pn tw (by simp [Act.eval, Act.put]) HRow.out.1 ⟨wr.heap.size, 0, none⟩ 1 1 [.int .i32 (m : Int), .int .i32 (p : Int)] (by simp [Act.eval, Act.put]) rfl HNew.out (by simp [Value.oneCell']) hl63 hl48 HRow.out.2 ?_; intro v8 w8 own8 ap8; have HF8 : Hid (_ ∧ _) := (HApp.out v8 w8 own8 ap8).2.2.2; obtain ⟨⟨a8, c8, hv8⟩, q1, q2, -⟩ := HApp.out v8 w8 own8 ap8; subst hv8; clear own8 ap8)
            all_goals
              go_wp2_with fail
              go_meet
              exact ⟨_, HF8.out.1, HF8.out.2⟩
          case rest =>
          obtain ⟨u2, hz8, hm8⟩ := hcut
          clear HApp HRow HNew z4 b3 b4 b4a kF zF HFz kc
          generalize wc = w8 at *
          obtain ⟨z9, m9⟩ := hz8.setF HEF.out hin Pn
          have b3 : w8.cell? ⟨b, 3, none⟩ = some s.F := hz8.c3
          have rF : w8.ownsRow w0.heap.size 21 1 s.F n (i32s (F.map fun (x : Nat) => (x : Int))) := hz8.f
          rw [HEF.out] at b3 rF
          have kF := row_cell rF (j := i) (x := .int .i32 (p : Int)) (by unfold i32s; rw [List.getElem?_map, List.getElem?_map, HY.out.2.2.2.2.2.2.1]; rfl)
          have zF := row_fz rF i
          obtain ⟨a4, c4, e4⟩ := row_form' hz8.p
          have e4 : u2 = .slice a4 (Pn + 1) c4 := by rw [← HPl.out]; simpa using e4
          have b4 : w8.cell? ⟨b, 4, none⟩ = some u2 := hz8.c4
          rw [e4] at b4
          have HZ9 : Hid (Cz w0.heap.size (w8.setCell ⟨gF, i, none⟩ (.int .i32 (Pn : Int))) b { s with P := u2 } n Y.length (inLs n []) (lefts Y []) (F.set i Pn) (P ++ [(m, p)]) Q [] ∧ Mo w (s.own b) (w8.setCell ⟨gF, i, none⟩ (.int .i32 (Pn : Int))) (({ s with P := u2 } : Sz).own b)) := ⟨z9, hm8.trans m9⟩
          have hwp : IntKind.i32.wrap (Pn : Int) = (Pn : Int) := by rw [wrap_i32']; omega
          have hwp2 : IntKind.i64.wrap (Pn : Int) = (Pn : Int) := by rw [IntKind.wrap_i64]; omega
          have HE4 : Hid (u2 = .slice a4 (Pn + 1) c4) := e4
          clear hz8 hm8 z9 m9 rF e4
          go_upto_region 7 with fail
          go_cut [] from 57 to 69 (fun wx => Cz w0.heap.size wx b { s with P := u2 } n Y.length (inLs n []) (lefts Y []) (F.set i Pn) (P ++ [(m, p)]) Q [] ∧ Mo w (s.own b) wx (({ s with P := u2 } : Sz).own b))
          case first =>
            go_region_law (fail)
            all_goals
              have HQ : Hid (_ ∧ _) := ⟨HZ9.out.1.below (Below.refl _ _).drew, HZ9.out.2.trans (Mo.below (Below.refl _ _).drew)⟩
              go_wp2_with fail
              go_meet
              exact ⟨HQ.out.1, HQ.out.2⟩
          case rest =>
          obtain ⟨hzA, hmA⟩ := hcut
          clear HZ9 b3 b4 kF zF
          generalize wc = w9 at *
          obtain ⟨gE, cE, eE0, e1, e2, e3⟩ := row_some hzA.e (by have := HY.out.1; omega)
          have eE : s.E = .slice (some ⟨gE, 0, none⟩) Y.length cE := eE0
          clear eE0
          have b2 : w9.cell? ⟨b, 2, none⟩ = some s.E := hzA.c2
          have rE : w9.ownsRow w0.heap.size 21 1 s.E Y.length (i32s (lefts Y [])) := hzA.e
          rw [eE] at b2 rE
          have kE := row_cell rE (j := m) (x := .int .i32 (cnt [] (Y.getD m []) : Int)) (by unfold i32s; rw [List.getElem?_map, lefts_at HY.out.1]; rfl)
          have zE := row_fz rE m
          obtain ⟨zB, mB⟩ := hzA.setE eE HY.out.1 ((cnt [] (Y.getD m []) : Int) + 1)
          have hcb : cnt [] (Y.getD m []) ≤ 1073741824 := Nat.le_trans (cnt_le _ _) (by have := HY.out.2.2.2.2.2.1; omega)
          have hmY := HY.out.1
          have HFin : Hid (En6 w0 w (w9.setCell ⟨gE, m, none⟩ (.int .i32 ((cnt [] (Y.getD m []) : Int) + 1))) b s u2 n (X.set m (c.take (j + 1))) Q) := by
            refine ⟨?_, hmA.trans mB⟩
            rw [← HUp.out]
            have hpl := HZ.out.2.1.add hn HY.out.1 HY.out.2.2.1 HY.out.2.1 HY.out.2.2.2.1 HI.out HY.out.2.2.2.2.2.2.1
            rw [HPl.out] at hpl
            refine ⟨Mo.bel HB0.out.1 HB0.out.2 (hmA.trans mB), HEn.out.ce.fit.set (by simpa using HY.out.2.2.2.2.2.1) (fun x hx => ?_), F.set i Pn, P ++ [(m, p)], ?_, hpl, ?_⟩
            · rcases List.mem_append.1 hx with a | a
              · exact HEn.out.ce.fit.lit _ (getD_in HY.out.1) x a
              · rw [show x = l by simpa using a]; exact ⟨HY.out.2.2.2.1, HY.out.2.2.2.2.1⟩
            · rw [List.length_set, lefts_set, cnt_more, if_neg HY.out.2.2.1]
              have e5 : (((cnt [] (Y.getD m []) + 1 : Nat)) : Int) = (cnt [] (Y.getD m []) : Int) + 1 := by omega
              rw [e5]
              exact zB
            · have h5 := lsum_set (c := Y.getD m [] ++ [l]) HY.out.1
              rw [List.length_append, List.length_singleton] at h5
              have h6 := HZ.out.2.2
              rw [List.length_append, List.length_singleton, HPl.out]
              omega
          clear hzA hmA zB mB rE eE HZ HUp HEn HY
          generalize cnt [] (Y.getD m []) = cm at *
          have hwc : IntKind.i32.wrap ((cm : Int) + 1) = (cm : Int) + 1 := by rw [wrap_i32']; omega
          generalize Y.length = YN at *
          go_wp2
          go_roundg (gk - 1)
          case measure => have := HJ.out; have := HLT.out; omega
          case rel => exact ⟨j + 1, u2, by have := HJ.out; have := HLT.out; omega, by go_num, HFin.out⟩
    · have hje : j = c.length := by have := HJ.out; omega
      rw [hje, List.take_length] at HEn
      clear hje
      obtain ⟨F, P, hz, hp, hP⟩ := HEn.out.ce.z
      have hmX : m < (X.set m c).length := by rw [List.length_set]; exact HX.out.1
      obtain ⟨gE, cE, eE0, e1, e2, e3⟩ := row_some hz.e (by omega)
      have eE : s.E = .slice (some ⟨gE, 0, none⟩) (X.set m c).length cE := eE0
      clear eE0
      have b2 : wr.cell? ⟨b, 2, none⟩ = some s.E := hz.c2
      have b5 : wr.cell? ⟨b, 5, none⟩ = some s.W := hz.c5
      have rE : wr.ownsRow w0.heap.size 21 1 s.E (X.set m c).length (i32s (lefts (X.set m c) [])) := hz.e
      rw [eE] at b2 rE
      have kE := row_cell rE (j := m) (x := .int .i32 (cnt [] c : Int)) (by unfold i32s; rw [List.getElem?_map, lefts_at hmX, getD_set_self HX.out.1]; rfl)
      have HWq : Hid (Wq w0.heap.size wr s.W s.L (X.set m c).length Q) := hz.w
      have hXn : (X.set m c).length ≤ 1073741824 := HEn.out.ce.fit.num
      have HPw : Hid (∀ W2 Q', Wq w0.heap.size W2 s.W s.L (X.set m c).length Q' → Mo wr (wown s.W s.L) W2 (wown s.W s.L) → En6 w0 w W2 b s u n (X.set m c) Q') := fun W2 Q' hq hm => by
        obtain ⟨z2, m2⟩ := hz.putW hq hm
        exact ⟨⟨Mo.bel HB0.out.1 HB0.out.2 (HEn.out.mo.trans m2), HEn.out.ce.fit, F, P, z2, hp, hP⟩, HEn.out.mo.trans m2⟩
      have HCn : Hid (cnt [] c = cnt [] c) := rfl
      clear hz hp hP rE eE
      by_cases hle : cnt [] c ≤ 1
      · have HLe : Hid (cnt [] c ≤ 1) := hle
        generalize hcm : cnt [] c = cm at *
        have HCm : Hid (cnt [] c = cm) := hcm
        clear hcm
        generalize (X.set m c).length = XN at *
        go_wp2_with fail
        refine (wAdd_any _ _ _ _ Q m wr HWq.out hmX (by omega)).mono ?_
        rintro e w2 ⟨rfl, hw2, hm2⟩
        have HF : Hid (En6 w0 w w2 b s u n (X.set m c) (qadd Q m)) := HPw.out _ _ hw2 hm2
        clear hw2 hm2
        go_wp2
        go_end0
        exact ⟨rfl, u, qadd Q m, HF.out, fun k => by rw [qadd_at]; exact ⟨fun h => h.elim .inl (fun e => .inr ⟨e, by rw [HCm.out]; exact HLe.out⟩), fun h => h.elim .inl (fun e => .inr e.1)⟩⟩
      · have HLe : Hid (¬ cnt [] c ≤ 1) := hle
        generalize hcm : cnt [] c = cm at *
        have HCm : Hid (cnt [] c = cm) := hcm
        clear hcm
        generalize (X.set m c).length = XN at *
        go_wp2
        go_end0
        exact ⟨rfl, u, Q, HEn.out, fun k => ⟨.inl, fun h => h.elim id (fun e => absurd e.2 (by rw [HCm.out]; exact HLe.out))⟩⟩
end Go.Proofs.YtjajafeaengnjaaGreatDoor
set_option linter.unusedSimpArgs false
set_option linter.unusedVariables false
namespace Go.Proofs.YtjajafeaengnjaaGreatDoor
open Go Go.RowKit

/-- what isn't false under K -/
def flt (K c : List Int) : List Int := c.filter (fun l => decide (-l ∉ K))
theorem flt_len (K c : List Int) : (flt K c).length ≤ c.length := List.length_filter_le _ _
theorem flt_mem {K c : List Int} {x : Int} : x ∈ flt K c ↔ x ∈ c ∧ -x ∉ K := by unfold flt; rw [List.mem_filter, decide_eq_true_eq]
theorem flt_no {K c : List Int} {j : Nat} (hj : j < c.length) (h : -(c.getD j 0) ∈ K) : flt K (c.take (j + 1)) = flt K (c.take j) := by
  rw [take_succ_getD c 0 j hj]
  unfold flt
  rw [List.filter_append, List.filter_cons, if_neg (by simpa using h), List.filter_nil, List.append_nil]
theorem flt_yes {K c : List Int} {j : Nat} (hj : j < c.length) (h : -(c.getD j 0) ∉ K) : flt K (c.take (j + 1)) = flt K (c.take j) ++ [c.getD j 0] := by
  rw [take_succ_getD c 0 j hj]
  unfold flt
  rw [List.filter_append, List.filter_cons, if_pos (by simpa using h), List.filter_nil]
/-- a closing that is being laid -/
structure Ov (w0 W : World) (b : Nat) (s : Sy) (n : Nat) (K : List Int) (X : List (List Int)) : Prop where
  bel : Below w0.heap.size w0 W
  fit : Fit X n
  z : ∃ F P, Oz w0.heap.size W b s n X.length (inLs n K) (lefts X []) F P [] [] ∧ Pls X n F P ∧ P.length ≤ lsum X + 1
theorem Ov.below {w0 W W' : World} {b : Nat} {s : Sy} {n : Nat} {K : List Int} {X : List (List Int)} (h : Ov w0 W b s n K X) (hb : Below W.heap.size W W') : Ov w0 W' b s n K X := by
  obtain ⟨F, P, hz, hp⟩ := h.z
  exact ⟨Below.step h.bel hb, h.fit, F, P, hz.below hb, hp⟩
structure En8 (w0 w W : World) (b : Nat) (s : Sy) (u : Value) (n : Nat) (K : List Int) (X : List (List Int)) : Prop where
  ce : Ov w0 W b { s with P := u } n K X
  mo : Mo w (s.own b) W (({ s with P := u } : Sy).own b)
theorem En8.below {w0 w W W' : World} {b : Nat} {s : Sy} {u : Value} {n : Nat} {K : List Int} {X : List (List Int)} (h : En8 w0 w W b s u n K X) (hb : Below W.heap.size W W') : En8 w0 w W' b s u n K X := ⟨h.ce.below hb, h.mo.trans (Mo.below hb)⟩
theorem Ov.same {w0 W : World} {b : Nat} {s : Sy} {n m : Nat} {K : List Int} {X : List (List Int)} {l : Int} (h : Ov w0 W b s n K X) (hm : m < X.length) (hl : l ∈ X.getD m []) (hlen : (X.getD m []).length + 1 ≤ 1073741824) (hf : fmd l = true ∧ idx l < n) : Ov w0 W b s n K (X.set m (X.getD m [] ++ [l])) := by
  obtain ⟨F, P, hz, hp, hP⟩ := h.z
  refine ⟨h.bel, h.fit.set (by simpa using hlen) (fun x hx => ?_), F, P, ?_, hp.same hm hl, ?_⟩
  · rcases List.mem_append.1 hx with a | a
    · exact h.fit.lit _ (getD_in hm) x a
    · rw [show x = l by simpa using a]; exact hf
  · have e : lefts (X.set m (X.getD m [] ++ [l])) [] = lefts X [] := by
      rw [lefts_set, cnt_more, if_pos hl, Nat.add_zero]
      apply List.ext_getElem?
      intro i
      by_cases e : m = i
      · subst e
        rw [List.getElem?_set_self (by simpa [lefts] using hm), lefts_at hm]
      · rw [List.getElem?_set_ne e]
    rw [e, List.length_set]
    exact hz
  · have := lsum_set (c := X.getD m [] ++ [l]) hm
    rw [List.length_append, List.length_singleton] at this
    omega
theorem upto8 {X : List (List Int)} {K : List Int} {m j : Nat} {c : List Int} (hj : j < c.length) (hm : m < X.length) (h : -(c.getD j 0) ∉ K) : (X.set m (flt K (c.take j))).set m ((X.set m (flt K (c.take j))).getD m [] ++ [c.getD j 0]) = X.set m (flt K (c.take (j + 1))) := by
  rw [getD_set_self hm, List.set_set, ← flt_yes hj h]
theorem Tryz.infoPlace8 : (Tryz.prog.info? 158).map (fun i => (i.zero, i.size, i.bytes)) = some (some (.agg #[.int .i32 0, .int .i32 0]), 2, 8) := by kernel_rfl

set_option maxRecDepth 100000 in
set_option maxHeartbeats 4000000 in
theorem oEnter_any (w0 : World) (b : Nat) (s : Sy) (n : Nat) (K : List Int) (X : List (List Int)) (m : Nat) (v : Value) (c : List Int) (w : World) (h : Ov w0 w b s n K X) (hr : Rd w0 v c) (hm : m < X.length) (h0 : X.getD m [] = []) (hgt : ∀ k, m < k → X.getD k [] = []) (hc : ∀ l ∈ c, fmd l = true ∧ idx l < n) (hcl : c.length ≤ 1073741824) (hsum : lsum X + c.length ≤ 2147483647) :
    Calls Tryz.prog 118 #[.pointer (some ⟨b, 0, none⟩), .int .i32 (m : Int), v] w fun e w' => e = .returned (.tuple #[]) ∧ ∃ u, En8 w0 w w' b s u n K (X.set m (flt K c)) := by
  have HS0 : Hid (En8 w0 w w b s s.P n K X) := ⟨h, Mo.refl _ _⟩
  have HB0 : Hid (Below w0.heap.size w0 w ∧ ∀ k, s.own b k → w0.heap.size ≤ k) := ⟨h.bel, fun k hk => by obtain ⟨F, P, hz, _⟩ := h.z; exact (hz.lt k hk).1⟩
  have hX0 : X.set m (flt K (c.take 0)) = X := by
    apply List.ext_getElem?
    intro i
    by_cases e : m = i
    · subst e
      rw [List.getElem?_set_self hm, List.getElem?_eq_getElem hm]
      rw [List.getD_eq_getElem?_getD, List.getElem?_eq_getElem hm] at h0
      simpa [flt] using h0.symm
    · rw [List.getElem?_set_ne e]
  have HX0 : Hid (X.set m (flt K (c.take 0)) = X) := hX0
  obtain ⟨a, cv, rfl, l1, l2, hcell⟩ := hr.form
  have HC : Hid (∀ (W : World) (j : Nat), Below w0.heap.size w0 W → j < c.length → ∃ bb off, a = some ⟨bb, off, none⟩ ∧ W.cell? ⟨bb, off + j, none⟩ = some (.int .i64 (c.getD j 0))) := fun W j hW hj => by
    obtain ⟨bb, off, e, hc⟩ := hcell j hj
    exact ⟨bb, off, e, (hW.cell (p := ⟨bb, off + j, none⟩) (World.block_lt_of_cell? w0 _ hc)).trans hc⟩
  have HX : Hid (m < X.length ∧ (∀ k, m < k → X.getD k [] = []) ∧ (∀ l ∈ c, fmd l = true ∧ idx l < n) ∧ lsum X + c.length ≤ 2147483647 ∧ X.getD m [] = [] ∧ Fit X n) := ⟨hm, hgt, hc, hsum, h0, h.fit⟩
  have hmb : m ≤ 1073741824 := by have := h.fit.num; omega
  have hn := h.fit.hn
  clear h hr hcell hm h0 hgt hc hsum hX0
  go_enter Tryz.func118, Tryz.ntmps118
  go_wp2
  go_loopg [12] c.length (fun g j' wr => ∃ (j : Nat) (u : Value), j + g = c.length ∧ j' = .int .i64 j ∧ En8 w0 w wr b s u n K (X.set m (flt K (c.take j))))
  case atStart => exact ⟨0, s.P, by omega, rfl, by rw [HX0.out]; exact HS0.out⟩
  case round =>
    obtain ⟨j, u, hj, rfl, hen⟩ := hrel
    have HJ : Hid (j + gk = c.length) := hj
    have HEn0 : Hid (En8 w0 w wr b s u n K (X.set m (flt K (c.take j)))) := hen
    clear hj hen
    by_cases hlt : j < c.length
    · obtain ⟨bb, off, rfl, kc⟩ := HC.out wr j HEn0.out.ce.bel hlt
      have hlf := HX.out.2.2.1 _ (getD_mem' (d := 0) hlt)
      have HNo : Hid (-(c.getD j 0) ∈ K → flt K (c.take (j + 1)) = flt K (c.take j)) := flt_no hlt
      have HUp0 : Hid (-(c.getD j 0) ∉ K → (X.set m (flt K (c.take j))).set m ((X.set m (flt K (c.take j))).getD m [] ++ [c.getD j 0]) = X.set m (flt K (c.take (j + 1)))) := upto8 hlt HX.out.1
      have HLT : Hid (j < c.length) := hlt
      generalize c.getD j 0 = l at *
      obtain ⟨i, hi⟩ : ∃ i : Nat, idx l = i := ⟨(idx l).toNat, by have := idx_range hlf.1; omega⟩
      have HI : Hid (idx l = i) := hi
      have hrl := fmd_range hlf.1
      have hwl : IntKind.i64.wrap (-l) = -l := by rw [IntKind.wrap_i64]; omega
      go_wp2_with fail
      refine (index_any _ _).mono ?_
      rintro e w9 ⟨rfl, hw9⟩
      obtain rfl : wr = w9 := hw9.symm
      rw [HI.out]
      clear hw9
      obtain ⟨F0, P0, hz0, -⟩ := HEn0.out.ce.z
      have HTr : Hid (Calls Tryz.prog 134 #[.pointer (some ⟨b, 0, none⟩), .int .i64 (-l)] wr fun e w' => e = .returned (.bool (decide (-l ∈ K))) ∧ Below wr.heap.size wr w') := oTrue_z _ b _ n _ K _ F0 P0 [] [] (-l) wr hz0 hn (fmd_neg hlf.1) (idx_neg_lt hlf.1 HX.out.2.2.2.2.2.ev hlf.2)
      clear hz0 hi
      go_wp2_with fail
      refine HTr.out.mono ?_
      rintro e w1 ⟨rfl, bel1⟩
      have HEn : Hid (En8 w0 w w1 b s u n K (X.set m (flt K (c.take j)))) := HEn0.out.below bel1
      clear bel1 HTr HEn0 kc
      generalize w1 = wr at *
      by_cases hin : -l ∈ K
      · have HFin : Hid (En8 w0 w wr b s u n K (X.set m (flt K (c.take (j + 1))))) := by rw [HNo.out hin]; exact HEn.out
        rw [decide_eq_true hin]
        clear hin HUp0
        go_wp2
        go_roundg (gk - 1)
        case measure => have := HJ.out; have := HLT.out; omega
        case rel => exact ⟨j + 1, u, by have := HJ.out; have := HLT.out; omega, by go_num, HFin.out⟩
      rw [decide_eq_false hin]
      have HUp : Hid ((X.set m (flt K (c.take j))).set m ((X.set m (flt K (c.take j))).getD m [] ++ [l]) = X.set m (flt K (c.take (j + 1)))) := HUp0.out hin
      clear hin HUp0 HNo
      have hmX : m < (X.set m (flt K (c.take j))).length := by rw [List.length_set]; exact HX.out.1
      have hgtX : ∀ k, m < k → (X.set m (flt K (c.take j))).getD k [] = [] := fun k hk => by rw [getD_set_ne (by omega)]; exact HX.out.2.1 k hk
      have hgm : (X.set m (flt K (c.take j))).getD m [] = flt K (c.take j) := getD_set_self HX.out.1
      have hfl := flt_len K (c.take j)
      rw [List.length_take] at hfl
      have hlsX : lsum (X.set m (flt K (c.take j))) ≤ lsum X + j := by
        have h9 := lsum_set (c := flt K (c.take j)) HX.out.1
        rw [HX.out.2.2.2.2.1, List.length_nil] at h9
        omega
      have hlenX : ((X.set m (flt K (c.take j))).getD m []).length + 1 ≤ 1073741824 := by rw [hgm]; omega
      have hsumX : lsum (X.set m (flt K (c.take j))) + 1 ≤ 2147483647 := by have := HX.out.2.2.2.1; omega
      generalize X.set m (flt K (c.take j)) = Y at *
      have hi : idx l = i := HI.out
      have hin : i < n := by omega
      obtain ⟨F, P, hz, hp, hP⟩ := HEn.out.ce.z
      obtain ⟨p, hpi⟩ : ∃ p, F[i]? = some p := ⟨_, List.getElem?_eq_getElem (by rw [hp.len]; exact hin)⟩
      have hseen := hp.seen hmX hgtX hlf.1 hi hpi
      have hplt := (hp.ch i p hpi).1
      obtain ⟨gF, cF, eF0, f1, f2, f3⟩ := row_some hz.f (by omega)
      have eF : s.F = .slice (some ⟨gF, 0, none⟩) n cF := eF0
      clear eF0
      have b3 : wr.cell? ⟨b, 3, none⟩ = some s.F := hz.c3
      have rF : wr.ownsRow w0.heap.size 21 1 s.F n (i32s (nats F)) := hz.f
      rw [eF] at b3 rF
      have kF := row_cell rF (j := i) (x := .int .i32 (p : Int)) (by unfold i32s nats; rw [List.getElem?_map, List.getElem?_map, hpi]; rfl)
      have zF := row_fz rF i
      obtain ⟨gP, cP, eP0, p1, p2, p3⟩ := row_some hz.p (by have := hp.pos; omega)
      have eP : u = .slice (some ⟨gP, 0, none⟩) P.length cP := eP0
      clear eP0
      have b4 : wr.cell? ⟨b, 4, none⟩ = some u := hz.c4
      have rP : wr.ownsRow w0.heap.size 158 2 u P.length (twp P) := hz.p
      rw [eP] at b4 rP
      have hPb : P.length ≤ 2147483647 := by omega
      by_cases hsn : l ∈ Y.getD m []
      · obtain ⟨q, hp0, hPp⟩ := hseen.1 hsn
        have kP := row_cell rP (twp_at hPp).1
        have HF : Hid (En8 w0 w wr b s u n K (X.set m (flt K (c.take (j + 1))))) := ⟨by rw [← HUp.out]; exact HEn.out.ce.same hmX hsn hlenX hlf, HEn.out.mo⟩
        have hmm : ((m : Int) == (m : Int)) = true := by simp
        clear hz hp hP hseen rF rP hsn hPp hlf eP eF hi hgm hgtX hlsX hfl hlenX hsumX hmX hpi
        generalize P.length = Pn at *
        go_wp2
        go_roundg (gk - 1)
        case measure => have := HJ.out; have := HLT.out; omega
        case rel => exact ⟨j + 1, u, by have := HJ.out; have := HLT.out; omega, by go_num, HF.out⟩
      · have hno : ¬ ∃ q, 0 < p ∧ P[p]? = some (m, q) := fun h2 => hsn (hseen.2 h2)
        have HZ : Hid (Oz w0.heap.size wr b { s with P := u } n Y.length (inLs n K) (lefts Y []) F P [] [] ∧ Pls Y n F P ∧ P.length ≤ lsum Y + 1) := ⟨hz, hp, hP⟩
        have HY : Hid (m < Y.length ∧ (∀ k, m < k → Y.getD k [] = []) ∧ l ∉ Y.getD m [] ∧ fmd l = true ∧ idx l < n ∧ (Y.getD m []).length + 1 ≤ 1073741824 ∧ F[i]? = some p ∧ lsum Y + 1 ≤ 2147483647) := ⟨hmX, hgtX, hsn, hlf.1, hlf.2, hlenX, hpi, hsumX⟩
        have HEF : Hid (s.F = .slice (some ⟨gF, 0, none⟩) n cF) := eF
        have HEP : Hid (u = .slice (some ⟨gP, 0, none⟩) P.length cP) := eP
        obtain ⟨i0, hi0, hz0, hz1, hz2⟩ := info_parts Tryz.infoPlace8
        have HInf : Hid (Tryz.prog.info? 158 = some i0 ∧ i0.zero = some (.agg #[.int .i32 0, .int .i32 0]) ∧ i0.size = 2 ∧ i0.bytes = 8) := ⟨hi0, hz0, hz1, hz2⟩
        have HFz : Hid (∀ W, Below wr.heap.size wr W → W.frozen? ⟨b, 4, none⟩ = false) := fun W hW => (hz.below hW).fz 4
        have z4 := hz.fz 4
        have b4a : (wr.alloc (.cells #[.int .i32 (m : Int), .int .i32 (p : Int)] 158)).cell? ⟨b, 4, none⟩ = some (.slice (some ⟨gP, 0, none⟩) P.length cP) := (World.cell?_alloc_lt _ _ _ (World.block_lt_of_cell? wr _ b4)).trans b4
        -- what the append gives
        have HApp : Hid (∀ v8 w8, w8.ownsRow w0.heap.size 158 2 v8 (P.length + 1) (twp P ++ [.int .i32 (m : Int), .int .i32 (p : Int)]) → Ap (wr.alloc (.cells #[.int .i32 (m : Int), .int .i32 (p : Int)] 158)).drew (.slice (some ⟨gP, 0, none⟩) P.length cP) w8 v8 →
            (∃ a8 c8, v8 = .slice a8 (P.length + 1) c8) ∧ w8.cell? ⟨b, 4, none⟩ = some (.slice (some ⟨gP, 0, none⟩) P.length cP) ∧ w8.frozen? ⟨b, 4, none⟩ = false ∧
            Oz w0.heap.size (w8.setCell ⟨b, 4, none⟩ v8) b { s with P := v8 } n Y.length (inLs n K) (lefts Y []) F (P ++ [(m, p)]) [] [] ∧ Mo w (s.own b) (w8.setCell ⟨b, 4, none⟩ v8) (({ s with P := v8 } : Sy).own b)) := fun v8 w8 own8 ap8 => by
          have bb : Below wr.heap.size wr (wr.alloc (.cells #[.int .i32 (m : Int), .int .i32 (p : Int)] 158)).drew := (below_box _ _).drew
          have hzA := hz.below bb
          have own9 : w8.ownsRow w0.heap.size 158 2 v8 (P ++ [(m, p)]).length (twp (P ++ [(m, p)])) := by
            rw [twp_snoc, List.length_append]; exact own8
          have ap9 : Ap (wr.alloc (.cells #[.int .i32 (m : Int), .int .i32 (p : Int)] 158)).drew u w8 v8 := by rw [eP]; exact ap8
          obtain ⟨z9, m9⟩ := hzA.putP ap9.grown ap9.new own9
          have ht : ∀ x, u.ownBlock = some x → Ty _ x 158 := fun x e => row_ty hzA.p e.symm
          have hbx := box_other hzA.box ap9.grown ht (by decide)
          exact ⟨row_form' own8, by simp [World.cell?, hbx]; exact eP, by simp [World.frozen?, hbx], z9, (HEn.out.mo.trans (Mo.below bb)).trans m9⟩
        have HRow : Hid ((wr.alloc (.cells #[.int .i32 (m : Int), .int .i32 (p : Int)] 158)).drew.ownsRow w0.heap.size 158 2 (.slice (some ⟨gP, 0, none⟩) P.length cP) P.length (twp P) ∧ w0.heap.size ≤ (wr.alloc (.cells #[.int .i32 (m : Int), .int .i32 (p : Int)] 158)).drew.heap.size) := by
          have bb : Below wr.heap.size wr (wr.alloc (.cells #[.int .i32 (m : Int), .int .i32 (p : Int)] 158)).drew := (below_box _ _).drew
          have := (hz.below bb).p
          rw [← eP]
          exact ⟨this, Nat.le_trans HEn.out.ce.bel.size bb.size⟩
        have HNew : Hid (∀ j x, [Value.int .i32 (m : Int), Value.int .i32 (p : Int)][j]? = some x → (wr.alloc (.cells #[.int .i32 (m : Int), .int .i32 (p : Int)] 158)).drew.cell? ((⟨wr.heap.size, 0, none⟩ : Addr).add j) = some x) := fun j x hx => by
          rw [Addr.add_lit]
          have hh : (wr.alloc (.cells #[.int .i32 (m : Int), .int .i32 (p : Int)] 158)).drew.heap[wr.heap.size]? = _ := World.alloc_heap_new wr (.cells #[.int .i32 (m : Int), .int .i32 (p : Int)] 158)
          show (match (wr.alloc (.cells #[.int .i32 (m : Int), .int .i32 (p : Int)] 158)).drew.heap[wr.heap.size]? with | some (Obj.cells c elem frozen) => c[0 + j]? | x => none) = _
          rw [hh]
          simpa using hx
        have hl63 : P.length + 1 ≤ maxLen := by unfold maxLen; omega
        have hl48 : (P.length + 1) * 8 ≤ 140737488355328 := by omega
        have hpc : p = 0 ∨ 0 < p := by omega
        have HPk : Hid (0 < p → ∃ k : Nat, wr.cell? ⟨gP, p * 2, none⟩ = some (.int .i32 (k : Int)) ∧ k ≠ m ∧ k ≤ 1073741824) := fun h0 => by
          obtain ⟨⟨k, q⟩, hkq⟩ : ∃ x, P[p]? = some x := ⟨_, List.getElem?_eq_getElem hplt⟩
          refine ⟨k, row_cell rP (twp_at hkq).1, fun e => hno ⟨q, h0, by rw [hkq, e]⟩, ?_⟩
          have h2 := (hp.num p k q h0 hkq).1
          have h3 := HEn.out.ce.fit.num
          omega
        have HPn : Hid (P.length ≤ 2147483647) := hPb
        clear hz hp hP hseen rF rP hsn hlf eP eF hi hgm hgtX hlsX hfl hlenX hsumX hmX hpi hno hi0 hz0 hz1 hz2
        generalize hPl : P.length = Pn at *
        have HPl : Hid (P.length = Pn) := hPl
        clear hPl
        generalize htw : twp P = tw at *
        clear htw
        rcases hpc with hpc | hpc
        · have hp0 : ¬ 0 < p := by omega
          clear hpc
          go_upto_region 7 with fail
          go_cut [] from 43 to 60 (fun wx => ∃ u2, Oz w0.heap.size wx b { s with P := u2 } n Y.length (inLs n K) (lefts Y []) F (P ++ [(m, p)]) [] [] ∧ Mo w (s.own b) wx (({ s with P := u2 } : Sy).own b))
          case first =>
            go_region_law (refine step_append_apk rfl (.tmp 47) (.tmp 57) 145 rfl w0.heap.size 158 i0 (.agg #[.int .i32 0, .int .i32 0]) 2 8 Tryz.underlying145 HInf.out.1 HInf.out.2.1 HInf.out.2.2.1 HInf.out.2.2.2 rfl (by decide) (.slice (some ⟨gP, 0, none⟩) Pn cP) Pn tw (by simp [Act.eval, Act.put]) HRow.out.1 ⟨wr.heap.size, 0, none⟩ 1 1 [.int .i32 (m : Int), .int .i32 (p : Int)] (by simp [Act.eval, Act.put]) rfl HNew.out (by simp [Value.oneCell']) hl63 hl48 HRow.out.2 ?_; intro v8 w8 own8 ap8; have HF8 : Hid (_ ∧ _) := (HApp.out v8 w8 own8 ap8).2.2.2; obtain ⟨⟨a8, c8, hv8⟩, q1, q2, -⟩ := HApp.out v8 w8 own8 ap8; subst hv8; clear own8 ap8)
            all_goals
              go_wp2_with fail
              go_meet
              exact ⟨_, HF8.out.1, HF8.out.2⟩
          case rest =>
          obtain ⟨u2, hz8, hm8⟩ := hcut
          clear HApp HRow HNew z4 b3 b4 b4a kF zF HFz
          generalize wc = w8 at *
          obtain ⟨z9, m9⟩ := hz8.setF HEF.out hin Pn
          have b3 : w8.cell? ⟨b, 3, none⟩ = some s.F := hz8.c3
          have rF : w8.ownsRow w0.heap.size 21 1 s.F n (i32s (nats F)) := hz8.f
          rw [HEF.out] at b3 rF
          have kF := row_cell rF (j := i) (x := .int .i32 (p : Int)) (by unfold i32s nats; rw [List.getElem?_map, List.getElem?_map, HY.out.2.2.2.2.2.2.1]; rfl)
          have zF := row_fz rF i
          obtain ⟨a4, c4, e4⟩ := row_form' hz8.p
          have e4 : u2 = .slice a4 (Pn + 1) c4 := by rw [← HPl.out]; simpa using e4
          have b4 : w8.cell? ⟨b, 4, none⟩ = some u2 := hz8.c4
          rw [e4] at b4
          have HZ9 : Hid (Oz w0.heap.size (w8.setCell ⟨gF, i, none⟩ (.int .i32 (Pn : Int))) b { s with P := u2 } n Y.length (inLs n K) (lefts Y []) (F.set i Pn) (P ++ [(m, p)]) [] [] ∧ Mo w (s.own b) (w8.setCell ⟨gF, i, none⟩ (.int .i32 (Pn : Int))) (({ s with P := u2 } : Sy).own b)) := ⟨z9, hm8.trans m9⟩
          have hwp : IntKind.i32.wrap (Pn : Int) = (Pn : Int) := by rw [wrap_i32']; omega
          have hwp2 : IntKind.i64.wrap (Pn : Int) = (Pn : Int) := by rw [IntKind.wrap_i64]; omega
          have HE4 : Hid (u2 = .slice a4 (Pn + 1) c4) := e4
          clear hz8 hm8 z9 m9 rF e4
          go_upto_region 8 with fail
          go_cut [] from 61 to 73 (fun wx => Oz w0.heap.size wx b { s with P := u2 } n Y.length (inLs n K) (lefts Y []) (F.set i Pn) (P ++ [(m, p)]) [] [] ∧ Mo w (s.own b) wx (({ s with P := u2 } : Sy).own b))
          case first =>
            go_region_law (fail)
            all_goals
              have HQ : Hid (_ ∧ _) := ⟨HZ9.out.1.below (Below.refl _ _).drew, HZ9.out.2.trans (Mo.below (Below.refl _ _).drew)⟩
              go_wp2_with fail
              go_meet
              exact ⟨HQ.out.1, HQ.out.2⟩
          case rest =>
          obtain ⟨hzA, hmA⟩ := hcut
          clear HZ9 b3 b4 kF zF
          generalize wc = w9 at *
          obtain ⟨gE, cE, eE0, e1, e2, e3⟩ := row_some hzA.e (by have := HY.out.1; omega)
          have eE : s.E = .slice (some ⟨gE, 0, none⟩) Y.length cE := eE0
          clear eE0
          have b2 : w9.cell? ⟨b, 2, none⟩ = some s.E := hzA.c2
          have rE : w9.ownsRow w0.heap.size 21 1 s.E Y.length (i32s (lefts Y [])) := hzA.e
          rw [eE] at b2 rE
          have kE := row_cell rE (j := m) (x := .int .i32 (cnt [] (Y.getD m []) : Int)) (by unfold i32s; rw [List.getElem?_map, lefts_at HY.out.1]; rfl)
          have zE := row_fz rE m
          obtain ⟨zB, mB⟩ := hzA.setE eE HY.out.1 ((cnt [] (Y.getD m []) : Int) + 1)
          have hcb : cnt [] (Y.getD m []) ≤ 1073741824 := Nat.le_trans (cnt_le _ _) (by have := HY.out.2.2.2.2.2.1; omega)
          have hmY := HY.out.1
          have HFin : Hid (En8 w0 w (w9.setCell ⟨gE, m, none⟩ (.int .i32 ((cnt [] (Y.getD m []) : Int) + 1))) b s u2 n K (X.set m (flt K (c.take (j + 1))))) := by
            refine ⟨?_, hmA.trans mB⟩
            rw [← HUp.out]
            have hpl := HZ.out.2.1.add hn HY.out.1 HY.out.2.2.1 HY.out.2.1 HY.out.2.2.2.1 HI.out HY.out.2.2.2.2.2.2.1
            rw [HPl.out] at hpl
            refine ⟨Mo.bel HB0.out.1 HB0.out.2 (hmA.trans mB), HEn.out.ce.fit.set (by simpa using HY.out.2.2.2.2.2.1) (fun x hx => ?_), F.set i Pn, P ++ [(m, p)], ?_, hpl, ?_⟩
            · rcases List.mem_append.1 hx with a | a
              · exact HEn.out.ce.fit.lit _ (getD_in HY.out.1) x a
              · rw [show x = l by simpa using a]; exact ⟨HY.out.2.2.2.1, HY.out.2.2.2.2.1⟩
            · rw [List.length_set, lefts_set, cnt_more, if_neg HY.out.2.2.1]
              have e5 : (((cnt [] (Y.getD m []) + 1 : Nat)) : Int) = (cnt [] (Y.getD m []) : Int) + 1 := by omega
              rw [e5]
              exact zB
            · have h5 := lsum_set (c := Y.getD m [] ++ [l]) HY.out.1
              rw [List.length_append, List.length_singleton] at h5
              have h6 := HZ.out.2.2
              rw [List.length_append, List.length_singleton, HPl.out]
              omega
          clear hzA hmA zB mB rE eE HZ HUp HEn HY
          generalize cnt [] (Y.getD m []) = cm at *
          have hwc : IntKind.i32.wrap ((cm : Int) + 1) = (cm : Int) + 1 := by rw [wrap_i32']; omega
          generalize Y.length = YN at *
          go_wp2
          go_roundg (gk - 1)
          case measure => have := HJ.out; have := HLT.out; omega
          case rel => exact ⟨j + 1, u2, by have := HJ.out; have := HLT.out; omega, by go_num, HFin.out⟩
        · obtain ⟨k, kP, hkm, hkb⟩ := HPk.out hpc
          have hkm2 : ((k : Int) == (m : Int)) = false := by simp; omega
          go_upto_region 7 with fail
          go_cut [] from 43 to 60 (fun wx => ∃ u2, Oz w0.heap.size wx b { s with P := u2 } n Y.length (inLs n K) (lefts Y []) F (P ++ [(m, p)]) [] [] ∧ Mo w (s.own b) wx (({ s with P := u2 } : Sy).own b))
          case first =>
            go_region_law (refine step_append_apk rfl (.tmp 47) (.tmp 57) 145 rfl w0.heap.size 158 i0 (.agg #[.int .i32 0, .int .i32 0]) 2 8 Tryz.underlying145 HInf.out.1 HInf.out.2.1 HInf.out.2.2.1 HInf.out.2.2.2 rfl (by decide) (.slice (some ⟨gP, 0, none⟩) Pn cP) Pn tw (by simp [Act.eval, Act.put]) HRow.out.1 ⟨wr.heap.size, 0, none⟩ 1 1 [.int .i32 (m : Int), .int .i32 (p : Int)] (by simp [Act.eval, Act.put]) rfl HNew.out (by simp [Value.oneCell']) hl63 hl48 HRow.out.2 ?_; intro v8 w8 own8 ap8; have HF8 : Hid (_ ∧ _) := (HApp.out v8 w8 own8 ap8).2.2.2; obtain ⟨⟨a8, c8, hv8⟩, q1, q2, -⟩ := HApp.out v8 w8 own8 ap8; subst hv8; clear own8 ap8)
            all_goals
              go_wp2_with fail
              go_meet
              exact ⟨_, HF8.out.1, HF8.out.2⟩
          case rest =>
          obtain ⟨u2, hz8, hm8⟩ := hcut
          clear HApp HRow HNew z4 b3 b4 b4a kF zF HFz
          generalize wc = w8 at *
          obtain ⟨z9, m9⟩ := hz8.setF HEF.out hin Pn
          have b3 : w8.cell? ⟨b, 3, none⟩ = some s.F := hz8.c3
          have rF : w8.ownsRow w0.heap.size 21 1 s.F n (i32s (nats F)) := hz8.f
          rw [HEF.out] at b3 rF
          have kF := row_cell rF (j := i) (x := .int .i32 (p : Int)) (by unfold i32s nats; rw [List.getElem?_map, List.getElem?_map, HY.out.2.2.2.2.2.2.1]; rfl)
          have zF := row_fz rF i
          obtain ⟨a4, c4, e4⟩ := row_form' hz8.p
          have e4 : u2 = .slice a4 (Pn + 1) c4 := by rw [← HPl.out]; simpa using e4
          have b4 : w8.cell? ⟨b, 4, none⟩ = some u2 := hz8.c4
          rw [e4] at b4
          have HZ9 : Hid (Oz w0.heap.size (w8.setCell ⟨gF, i, none⟩ (.int .i32 (Pn : Int))) b { s with P := u2 } n Y.length (inLs n K) (lefts Y []) (F.set i Pn) (P ++ [(m, p)]) [] [] ∧ Mo w (s.own b) (w8.setCell ⟨gF, i, none⟩ (.int .i32 (Pn : Int))) (({ s with P := u2 } : Sy).own b)) := ⟨z9, hm8.trans m9⟩
          have hwp : IntKind.i32.wrap (Pn : Int) = (Pn : Int) := by rw [wrap_i32']; omega
          have hwp2 : IntKind.i64.wrap (Pn : Int) = (Pn : Int) := by rw [IntKind.wrap_i64]; omega
          have HE4 : Hid (u2 = .slice a4 (Pn + 1) c4) := e4
          clear hz8 hm8 z9 m9 rF e4
          go_upto_region 8 with fail
          go_cut [] from 61 to 73 (fun wx => Oz w0.heap.size wx b { s with P := u2 } n Y.length (inLs n K) (lefts Y []) (F.set i Pn) (P ++ [(m, p)]) [] [] ∧ Mo w (s.own b) wx (({ s with P := u2 } : Sy).own b))
          case first =>
            go_region_law (fail)
            all_goals
              have HQ : Hid (_ ∧ _) := ⟨HZ9.out.1.below (Below.refl _ _).drew, HZ9.out.2.trans (Mo.below (Below.refl _ _).drew)⟩
              go_wp2_with fail
              go_meet
              exact ⟨HQ.out.1, HQ.out.2⟩
          case rest =>
          obtain ⟨hzA, hmA⟩ := hcut
          clear HZ9 b3 b4 kF zF
          generalize wc = w9 at *
          obtain ⟨gE, cE, eE0, e1, e2, e3⟩ := row_some hzA.e (by have := HY.out.1; omega)
          have eE : s.E = .slice (some ⟨gE, 0, none⟩) Y.length cE := eE0
          clear eE0
          have b2 : w9.cell? ⟨b, 2, none⟩ = some s.E := hzA.c2
          have rE : w9.ownsRow w0.heap.size 21 1 s.E Y.length (i32s (lefts Y [])) := hzA.e
          rw [eE] at b2 rE
          have kE := row_cell rE (j := m) (x := .int .i32 (cnt [] (Y.getD m []) : Int)) (by unfold i32s; rw [List.getElem?_map, lefts_at HY.out.1]; rfl)
          have zE := row_fz rE m
          obtain ⟨zB, mB⟩ := hzA.setE eE HY.out.1 ((cnt [] (Y.getD m []) : Int) + 1)
          have hcb : cnt [] (Y.getD m []) ≤ 1073741824 := Nat.le_trans (cnt_le _ _) (by have := HY.out.2.2.2.2.2.1; omega)
          have hmY := HY.out.1
          have HFin : Hid (En8 w0 w (w9.setCell ⟨gE, m, none⟩ (.int .i32 ((cnt [] (Y.getD m []) : Int) + 1))) b s u2 n K (X.set m (flt K (c.take (j + 1))))) := by
            refine ⟨?_, hmA.trans mB⟩
            rw [← HUp.out]
            have hpl := HZ.out.2.1.add hn HY.out.1 HY.out.2.2.1 HY.out.2.1 HY.out.2.2.2.1 HI.out HY.out.2.2.2.2.2.2.1
            rw [HPl.out] at hpl
            refine ⟨Mo.bel HB0.out.1 HB0.out.2 (hmA.trans mB), HEn.out.ce.fit.set (by simpa using HY.out.2.2.2.2.2.1) (fun x hx => ?_), F.set i Pn, P ++ [(m, p)], ?_, hpl, ?_⟩
            · rcases List.mem_append.1 hx with a | a
              · exact HEn.out.ce.fit.lit _ (getD_in HY.out.1) x a
              · rw [show x = l by simpa using a]; exact ⟨HY.out.2.2.2.1, HY.out.2.2.2.2.1⟩
            · rw [List.length_set, lefts_set, cnt_more, if_neg HY.out.2.2.1]
              have e5 : (((cnt [] (Y.getD m []) + 1 : Nat)) : Int) = (cnt [] (Y.getD m []) : Int) + 1 := by omega
              rw [e5]
              exact zB
            · have h5 := lsum_set (c := Y.getD m [] ++ [l]) HY.out.1
              rw [List.length_append, List.length_singleton] at h5
              have h6 := HZ.out.2.2
              rw [List.length_append, List.length_singleton, HPl.out]
              omega
          clear hzA hmA zB mB rE eE HZ HUp HEn HY
          generalize cnt [] (Y.getD m []) = cm at *
          have hwc : IntKind.i32.wrap ((cm : Int) + 1) = (cm : Int) + 1 := by rw [wrap_i32']; omega
          generalize Y.length = YN at *
          go_wp2
          go_roundg (gk - 1)
          case measure => have := HJ.out; have := HLT.out; omega
          case rel => exact ⟨j + 1, u2, by have := HJ.out; have := HLT.out; omega, by go_num, HFin.out⟩
    · have hje : j = c.length := by have := HJ.out; omega
      have HEn : Hid (En8 w0 w wr b s u n K (X.set m (flt K c))) := by
        have := HEn0.out
        rw [hje, List.take_length] at this
        exact this
      go_wp2
      go_end0
      exact ⟨rfl, u, HEn.out⟩
end Go.Proofs.YtjajafeaengnjaaGreatDoor
set_option linter.unusedSimpArgs false
set_option linter.unusedVariables false
namespace Go.Proofs.YtjajafeaengnjaaGreatDoor
open Go Go.RowKit

theorem infoP8 : (Tryz.prog.info? 158).map (fun i => (i.zero, i.size, i.bytes)) = some (some (.agg #[.int .i32 0, .int .i32 0]), 2, 8) := by kernel_rfl
def MkP8 (w W : World) (g : Nat) : Prop := W.heap[g]? = some (.cells (madeCells #[.int .i32 0, .int .i32 0] 2) 158 (0, 0)) ∧ w.heap.size ≤ g
theorem made_place8 (w : World) :
    (Instr.makeSlice 145 (.int .i64 1) (.int .i64 1)).run Tryz.prog w = .ok (.slice (some ⟨w.heap.size, 0, none⟩) 1 1) (w.alloc (.cells (madeCells #[.int .i32 0, .int .i32 0] 2) 158)) := by
  obtain ⟨i, hi, hz, hs, hb⟩ := info_parts infoP8
  have hr := run_make (P := Tryz.prog) w 145 158 i _ Tryz.underlying145 hi hz .i64 .i64 1 1 (by omega) (by omega) (by rw [hb]; omega) (by omega)
  have e1 : (1 : Int).toNat = 1 := by omega
  simp only [e1, hs] at hr
  exact hr
structure Lb (w w1 : World) (s : Value) (N n bx : Nat) (L : Nat → Bool) (W : World) (x6 x15 x16 x17 x18 x19 x20 x21 x22 x23 x24 x25 x26 x27 : Value) : Prop where
  bel : Below w1.heap.size w1 W
  f0 : L 0 = true → x15 = .pointer (some ⟨bx, 1, none⟩)
  f1 : L 1 = true → x16 = s
  f2 : L 2 = true → x17 = .int .i64 (n : Int)
  f3 : L 3 = true → ∃ g, x18 = .slice (some ⟨g, 0, none⟩) n n ∧ Mk w W g 4 (.bool false) n
  f4 : L 4 = true → x19 = .pointer (some ⟨bx, 1, none⟩)
  f5 : L 5 = true → x20 = s
  f6 : L 6 = true → x21 = .int .i64 (N : Int)
  f7 : L 7 = true → ∃ g, x22 = .slice (some ⟨g, 0, none⟩) N N ∧ Mk w W g 21 (.int .i32 0) N
  f8 : L 8 = true → x23 = .int .i64 (n : Int)
  f9 : L 9 = true → ∃ g, x24 = .slice (some ⟨g, 0, none⟩) n n ∧ Mk w W g 21 (.int .i32 0) n
  f10 : L 10 = true → ∃ g, x25 = .slice (some ⟨g, 0, none⟩) 1 1 ∧ MkP8 w W g
  f11 : L 11 = true → x26 = .agg #[x16, x18, x22, x24, x25, .slice none 0 0, .slice none 0 0]
  f12 : L 12 = true → ∃ b, x27 = .pointer (some ⟨b, 0, none⟩) ∧ W.heap[b]? = some (.cells #[x16, x18, x22, x24, x25, .slice none 0 0, .slice none 0 0] 147 (0, 0)) ∧ w.heap.size ≤ b
  f13 : L 13 = true → x6 = x27
  f79 : L 7 = true → L 9 = true → x22.ownBlock ≠ x24.ownBlock
  c11 : L 11 = true → L 1 = true ∧ L 3 = true ∧ L 7 = true ∧ L 9 = true ∧ L 10 = true
  c12 : L 12 = true → L 11 = true
  c13 : L 13 = true → L 12 = true
theorem Lb.lift {w w1 : World} {s : Value} {N n bx : Nat} {L : Nat → Bool} {W : World} {x6 x15 x16 x17 x18 x19 x20 x21 x22 x23 x24 x25 x26 x27 : Value} {W' : World} (h : Lb w w1 s N n bx L W x6 x15 x16 x17 x18 x19 x20 x21 x22 x23 x24 x25 x26 x27) (hb : Below W.heap.size W W') : Lb w w1 s N n bx L W' x6 x15 x16 x17 x18 x19 x20 x21 x22 x23 x24 x25 x26 x27 :=
  ⟨Below.step h.bel hb, h.f0, h.f1, h.f2, fun hl => by obtain ⟨g, e, m⟩ := h.f3 hl; exact ⟨g, e, m.lift hb⟩, h.f4, h.f5, h.f6, fun hl => by obtain ⟨g, e, m⟩ := h.f7 hl; exact ⟨g, e, m.lift hb⟩, h.f8, fun hl => by obtain ⟨g, e, m⟩ := h.f9 hl; exact ⟨g, e, m.lift hb⟩, fun hl => by obtain ⟨g, e, m1, m2⟩ := h.f10 hl; exact ⟨g, e, (hb.block g (Array.getElem?_eq_some_iff.1 m1).1).trans m1, m2⟩, h.f11, fun hl => by obtain ⟨b, e, m1, m2⟩ := h.f12 hl; exact ⟨b, e, (hb.block b (Array.getElem?_eq_some_iff.1 m1).1).trans m1, m2⟩, h.f13, h.f79, h.c11, h.c12, h.c13⟩
def LbI (w w1 : World) (v : Int) (s : Value) (N n bx : Nat) (y1 y3 y4 y7 y8 y9 y10 y11 y12 y13 y14 y28 y29 y30 y31 y32 y33 y34 y35 y36 y37 y38 y39 y40 y41 y42 y43 y44 y45 y46 y47 y48 y49 y50 y51 y52 y53 y54 y55 y56 y57 y58 y59 y60 y61 y62 y63 y64 : Value) (listed : Array Bool) (a : Act) (W : World) : Prop :=
  listed.size = 14 ∧ ∃ L : Nat → Bool, (∀ j, j < 14 → listed.getD j false = L j) ∧ ∃ x6 x15 x16 x17 x18 x19 x20 x21 x22 x23 x24 x25 x26 x27 : Value, a = ({ tmps := #[.agg #[.int .i64 v, s], y1, .pointer (some ⟨bx, 0, none⟩), y3, y4, .int .i64 (n : Int), x6, y7, y8, y9, y10, y11, y12, y13, y14, x15, x16, x17, x18, x19, x20, x21, x22, x23, x24, x25, x26, x27, y28, y29, y30, y31, y32, y33, y34, y35, y36, y37, y38, y39, y40, y41, y42, y43, y44, y45, y46, y47, y48, y49, y50, y51, y52, y53, y54, y55, y56, y57, y58, y59, y60, y61, y62, y63, y64], defers := [] } : Act) ∧ Lb w w1 s N n bx L W x6 x15 x16 x17 x18 x19 x20 x21 x22 x23 x24 x25 x26 x27
theorem lnk14 {listed : Array Bool} {L : Nat → Bool} (hs : listed.size = 14) (h : ∀ j, j < 14 → listed.getD j false = L j) {i : Nat} (hi : i < 14) : (listed.setIfInBounds i true).size = 14 ∧ ∀ j, j < 14 → (listed.setIfInBounds i true).getD j false = upd L i j := by
  refine ⟨by simpa using hs, fun j hj => ?_⟩
  rw [set_getD false (by rw [hs]; exact hi), h j hj]
  rfl
theorem getD_ft14 {listed : Array Bool} {i : Nat} (hs : listed.size = 14) (hi : i < 14) (h : listed.getD i true = false) : listed.getD i false = false := by
  have hj : i < listed.size := by omega
  simp [Array.getD, hj] at h ⊢
  exact h
theorem Lb.s0 {w w1 : World} {s : Value} {N n bx : Nat} {L : Nat → Bool} {W : World} {x6 x15 x16 x17 x18 x19 x20 x21 x22 x23 x24 x25 x26 x27 : Value} (h : Lb w w1 s N n bx L W x6 x15 x16 x17 x18 x19 x20 x21 x22 x23 x24 x25 x26 x27)  : Lb w w1 s N n bx (upd L 0) W x6 (.pointer (some ⟨bx, 1, none⟩)) x16 x17 x18 x19 x20 x21 x22 x23 x24 x25 x26 x27 := by
  have h2 := h.lift (W' := W) (Below.refl _ _)
  exact ⟨h2.bel, fun _ => rfl, h2.f1, h2.f2, h2.f3, h2.f4, h2.f5, h2.f6, h2.f7, h2.f8, h2.f9, h2.f10, h2.f11, h2.f12, h2.f13, h2.f79, h2.c11, h2.c12, h2.c13⟩
theorem Lb.s2 {w w1 : World} {s : Value} {N n bx : Nat} {L : Nat → Bool} {W : World} {x6 x15 x16 x17 x18 x19 x20 x21 x22 x23 x24 x25 x26 x27 : Value} (h : Lb w w1 s N n bx L W x6 x15 x16 x17 x18 x19 x20 x21 x22 x23 x24 x25 x26 x27)  : Lb w w1 s N n bx (upd L 2) W x6 x15 x16 (.int .i64 (n : Int)) x18 x19 x20 x21 x22 x23 x24 x25 x26 x27 := by
  have h2 := h.lift (W' := W) (Below.refl _ _)
  exact ⟨h2.bel, h2.f0, h2.f1, fun _ => rfl, h2.f3, h2.f4, h2.f5, h2.f6, h2.f7, h2.f8, h2.f9, h2.f10, h2.f11, h2.f12, h2.f13, h2.f79, h2.c11, h2.c12, h2.c13⟩
theorem Lb.s4 {w w1 : World} {s : Value} {N n bx : Nat} {L : Nat → Bool} {W : World} {x6 x15 x16 x17 x18 x19 x20 x21 x22 x23 x24 x25 x26 x27 : Value} (h : Lb w w1 s N n bx L W x6 x15 x16 x17 x18 x19 x20 x21 x22 x23 x24 x25 x26 x27)  : Lb w w1 s N n bx (upd L 4) W x6 x15 x16 x17 x18 (.pointer (some ⟨bx, 1, none⟩)) x20 x21 x22 x23 x24 x25 x26 x27 := by
  have h2 := h.lift (W' := W) (Below.refl _ _)
  exact ⟨h2.bel, h2.f0, h2.f1, h2.f2, h2.f3, fun _ => rfl, h2.f5, h2.f6, h2.f7, h2.f8, h2.f9, h2.f10, h2.f11, h2.f12, h2.f13, h2.f79, h2.c11, h2.c12, h2.c13⟩
theorem Lb.s5 {w w1 : World} {s : Value} {N n bx : Nat} {L : Nat → Bool} {W : World} {x6 x15 x16 x17 x18 x19 x20 x21 x22 x23 x24 x25 x26 x27 : Value} (h : Lb w w1 s N n bx L W x6 x15 x16 x17 x18 x19 x20 x21 x22 x23 x24 x25 x26 x27)  : Lb w w1 s N n bx (upd L 5) W x6 x15 x16 x17 x18 x19 (s) x21 x22 x23 x24 x25 x26 x27 := by
  have h2 := h.lift (W' := W) (Below.refl _ _)
  exact ⟨h2.bel, h2.f0, h2.f1, h2.f2, h2.f3, h2.f4, fun _ => rfl, h2.f6, h2.f7, h2.f8, h2.f9, h2.f10, h2.f11, h2.f12, h2.f13, h2.f79, h2.c11, h2.c12, h2.c13⟩
theorem Lb.s6 {w w1 : World} {s : Value} {N n bx : Nat} {L : Nat → Bool} {W : World} {x6 x15 x16 x17 x18 x19 x20 x21 x22 x23 x24 x25 x26 x27 : Value} (h : Lb w w1 s N n bx L W x6 x15 x16 x17 x18 x19 x20 x21 x22 x23 x24 x25 x26 x27)  : Lb w w1 s N n bx (upd L 6) W x6 x15 x16 x17 x18 x19 x20 (.int .i64 (N : Int)) x22 x23 x24 x25 x26 x27 := by
  have h2 := h.lift (W' := W) (Below.refl _ _)
  exact ⟨h2.bel, h2.f0, h2.f1, h2.f2, h2.f3, h2.f4, h2.f5, fun _ => rfl, h2.f7, h2.f8, h2.f9, h2.f10, h2.f11, h2.f12, h2.f13, h2.f79, h2.c11, h2.c12, h2.c13⟩
theorem Lb.s8 {w w1 : World} {s : Value} {N n bx : Nat} {L : Nat → Bool} {W : World} {x6 x15 x16 x17 x18 x19 x20 x21 x22 x23 x24 x25 x26 x27 : Value} (h : Lb w w1 s N n bx L W x6 x15 x16 x17 x18 x19 x20 x21 x22 x23 x24 x25 x26 x27)  : Lb w w1 s N n bx (upd L 8) W x6 x15 x16 x17 x18 x19 x20 x21 x22 (.int .i64 (n : Int)) x24 x25 x26 x27 := by
  have h2 := h.lift (W' := W) (Below.refl _ _)
  exact ⟨h2.bel, h2.f0, h2.f1, h2.f2, h2.f3, h2.f4, h2.f5, h2.f6, h2.f7, fun _ => rfl, h2.f9, h2.f10, h2.f11, h2.f12, h2.f13, h2.f79, h2.c11, h2.c12, h2.c13⟩
theorem Lb.s1 {w w1 : World} {s : Value} {N n bx : Nat} {L : Nat → Bool} {W : World} {x6 x15 x16 x17 x18 x19 x20 x21 x22 x23 x24 x25 x26 x27 : Value} (h : Lb w w1 s N n bx L W x6 x15 x16 x17 x18 x19 x20 x21 x22 x23 x24 x25 x26 x27) (q11 : L 11 = false) (q12 : L 12 = false)  : Lb w w1 s N n bx (upd L 1) W x6 x15 (s) x17 x18 x19 x20 x21 x22 x23 x24 x25 x26 x27 := by
  have h2 := h.lift (W' := W) (Below.refl _ _)
  exact ⟨h2.bel, h2.f0, fun _ => rfl, h2.f2, h2.f3, h2.f4, h2.f5, h2.f6, h2.f7, h2.f8, h2.f9, h2.f10, fun hl => absurd (show L 11 = true from hl) (by rw [q11]; decide), fun hl => absurd (show L 12 = true from hl) (by rw [q12]; decide), h2.f13, h2.f79, fun hl => absurd (show L 11 = true from hl) (by rw [q11]; decide), h2.c12, h2.c13⟩
theorem Lb.s3 {w w1 : World} {s : Value} {N n bx : Nat} {L : Nat → Bool} {W : World} {x6 x15 x16 x17 x18 x19 x20 x21 x22 x23 x24 x25 x26 x27 : Value} (h : Lb w w1 s N n bx L W x6 x15 x16 x17 x18 x19 x20 x21 x22 x23 x24 x25 x26 x27) (q11 : L 11 = false) (q12 : L 12 = false) (hw : w.heap.size ≤ W.heap.size) : Lb w w1 s N n bx (upd L 3) (W.alloc (.cells (madeCells #[.bool false] n) 4)) x6 x15 x16 x17 (.slice (some ⟨W.heap.size, 0, none⟩) n n) x19 x20 x21 x22 x23 x24 x25 x26 x27 := by
  have h2 := h.lift (W' := (W.alloc (.cells (madeCells #[.bool false] n) 4))) (below_box _ _)
  exact ⟨h2.bel, h2.f0, h2.f1, h2.f2, fun _ => ⟨_, rfl, Mk.new _ _ _ hw⟩, h2.f4, h2.f5, h2.f6, h2.f7, h2.f8, h2.f9, h2.f10, fun hl => absurd (show L 11 = true from hl) (by rw [q11]; decide), fun hl => absurd (show L 12 = true from hl) (by rw [q12]; decide), h2.f13, h2.f79, fun hl => absurd (show L 11 = true from hl) (by rw [q11]; decide), h2.c12, h2.c13⟩
theorem Lb.s7 {w w1 : World} {s : Value} {N n bx : Nat} {L : Nat → Bool} {W : World} {x6 x15 x16 x17 x18 x19 x20 x21 x22 x23 x24 x25 x26 x27 : Value} (h : Lb w w1 s N n bx L W x6 x15 x16 x17 x18 x19 x20 x21 x22 x23 x24 x25 x26 x27) (q11 : L 11 = false) (q12 : L 12 = false) (hw : w.heap.size ≤ W.heap.size) : Lb w w1 s N n bx (upd L 7) (W.alloc (.cells (madeCells #[.int .i32 0] N) 21)) x6 x15 x16 x17 x18 x19 x20 x21 (.slice (some ⟨W.heap.size, 0, none⟩) N N) x23 x24 x25 x26 x27 := by
  have h2 := h.lift (W' := (W.alloc (.cells (madeCells #[.int .i32 0] N) 21))) (below_box _ _)
  exact ⟨h2.bel, h2.f0, h2.f1, h2.f2, h2.f3, h2.f4, h2.f5, h2.f6, fun _ => ⟨_, rfl, Mk.new _ _ _ hw⟩, h2.f8, h2.f9, h2.f10, fun hl => absurd (show L 11 = true from hl) (by rw [q11]; decide), fun hl => absurd (show L 12 = true from hl) (by rw [q12]; decide), h2.f13, fun _ hl e => by obtain ⟨g, eg, m⟩ := h.f9 (show L 9 = true from hl); subst eg; have := (Array.getElem?_eq_some_iff.1 m.1).1; simp [Value.ownBlock] at e; omega, fun hl => absurd (show L 11 = true from hl) (by rw [q11]; decide), h2.c12, h2.c13⟩
theorem Lb.s9 {w w1 : World} {s : Value} {N n bx : Nat} {L : Nat → Bool} {W : World} {x6 x15 x16 x17 x18 x19 x20 x21 x22 x23 x24 x25 x26 x27 : Value} (h : Lb w w1 s N n bx L W x6 x15 x16 x17 x18 x19 x20 x21 x22 x23 x24 x25 x26 x27) (q11 : L 11 = false) (q12 : L 12 = false) (hw : w.heap.size ≤ W.heap.size) : Lb w w1 s N n bx (upd L 9) (W.alloc (.cells (madeCells #[.int .i32 0] n) 21)) x6 x15 x16 x17 x18 x19 x20 x21 x22 x23 (.slice (some ⟨W.heap.size, 0, none⟩) n n) x25 x26 x27 := by
  have h2 := h.lift (W' := (W.alloc (.cells (madeCells #[.int .i32 0] n) 21))) (below_box _ _)
  exact ⟨h2.bel, h2.f0, h2.f1, h2.f2, h2.f3, h2.f4, h2.f5, h2.f6, h2.f7, h2.f8, fun _ => ⟨_, rfl, Mk.new _ _ _ hw⟩, h2.f10, fun hl => absurd (show L 11 = true from hl) (by rw [q11]; decide), fun hl => absurd (show L 12 = true from hl) (by rw [q12]; decide), h2.f13, fun hl _ e => by obtain ⟨g, eg, m⟩ := h.f7 (show L 7 = true from hl); subst eg; have := (Array.getElem?_eq_some_iff.1 m.1).1; simp [Value.ownBlock] at e; omega, fun hl => absurd (show L 11 = true from hl) (by rw [q11]; decide), h2.c12, h2.c13⟩
theorem Lb.s10 {w w1 : World} {s : Value} {N n bx : Nat} {L : Nat → Bool} {W : World} {x6 x15 x16 x17 x18 x19 x20 x21 x22 x23 x24 x25 x26 x27 : Value} (h : Lb w w1 s N n bx L W x6 x15 x16 x17 x18 x19 x20 x21 x22 x23 x24 x25 x26 x27) (q11 : L 11 = false) (q12 : L 12 = false) (hw : w.heap.size ≤ W.heap.size) : Lb w w1 s N n bx (upd L 10) (W.alloc (.cells (madeCells #[.int .i32 0, .int .i32 0] 2) 158)) x6 x15 x16 x17 x18 x19 x20 x21 x22 x23 x24 (.slice (some ⟨W.heap.size, 0, none⟩) 1 1) x26 x27 := by
  have h2 := h.lift (W' := (W.alloc (.cells (madeCells #[.int .i32 0, .int .i32 0] 2) 158))) (below_box _ _)
  exact ⟨h2.bel, h2.f0, h2.f1, h2.f2, h2.f3, h2.f4, h2.f5, h2.f6, h2.f7, h2.f8, h2.f9, fun _ => ⟨_, rfl, World.alloc_heap_new W _, hw⟩, fun hl => absurd (show L 11 = true from hl) (by rw [q11]; decide), fun hl => absurd (show L 12 = true from hl) (by rw [q12]; decide), h2.f13, h2.f79, fun hl => absurd (show L 11 = true from hl) (by rw [q11]; decide), h2.c12, h2.c13⟩
theorem Lb.s11 {w w1 : World} {s : Value} {N n bx : Nat} {L : Nat → Bool} {W : World} {x6 x15 x16 x17 x18 x19 x20 x21 x22 x23 x24 x25 x26 x27 : Value} (h : Lb w w1 s N n bx L W x6 x15 x16 x17 x18 x19 x20 x21 x22 x23 x24 x25 x26 x27) (hc : L 1 = true ∧ L 3 = true ∧ L 7 = true ∧ L 9 = true ∧ L 10 = true) : Lb w w1 s N n bx (upd L 11) W x6 x15 x16 x17 x18 x19 x20 x21 x22 x23 x24 x25 (.agg #[x16, x18, x22, x24, x25, .slice none 0 0, .slice none 0 0]) x27 := by
  have h2 := h.lift (W' := W) (Below.refl _ _)
  exact ⟨h2.bel, h2.f0, h2.f1, h2.f2, h2.f3, h2.f4, h2.f5, h2.f6, h2.f7, h2.f8, h2.f9, h2.f10, fun _ => rfl, h2.f12, h2.f13, h2.f79, fun _ => hc, fun _ => rfl, h2.c13⟩
theorem Lb.s12 {w w1 : World} {s : Value} {N n bx : Nat} {L : Nat → Bool} {W : World} {x6 x15 x16 x17 x18 x19 x20 x21 x22 x23 x24 x25 x26 x27 : Value} (h : Lb w w1 s N n bx L W x6 x15 x16 x17 x18 x19 x20 x21 x22 x23 x24 x25 x26 x27) (hc : L 11 = true) (q13 : L 13 = false) (hw : w.heap.size ≤ W.heap.size) : Lb w w1 s N n bx (upd L 12) (W.alloc (.cells #[x16, x18, x22, x24, x25, .slice none 0 0, .slice none 0 0] 147)) x6 x15 x16 x17 x18 x19 x20 x21 x22 x23 x24 x25 x26 (.pointer (some ⟨W.heap.size, 0, none⟩)) := by
  have h2 := h.lift (W' := (W.alloc (.cells #[x16, x18, x22, x24, x25, .slice none 0 0, .slice none 0 0] 147))) (below_box _ _)
  exact ⟨h2.bel, h2.f0, h2.f1, h2.f2, h2.f3, h2.f4, h2.f5, h2.f6, h2.f7, h2.f8, h2.f9, h2.f10, h2.f11, fun _ => ⟨_, rfl, World.alloc_heap_new W _, hw⟩, fun hl => absurd (show L 13 = true from hl) (by rw [q13]; decide), h2.f79, h2.c11, fun _ => hc, fun _ => rfl⟩
theorem Lb.s13 {w w1 : World} {s : Value} {N n bx : Nat} {L : Nat → Bool} {W : World} {x6 x15 x16 x17 x18 x19 x20 x21 x22 x23 x24 x25 x26 x27 : Value} (h : Lb w w1 s N n bx L W x6 x15 x16 x17 x18 x19 x20 x21 x22 x23 x24 x25 x26 x27) (hc : L 12 = true) : Lb w w1 s N n bx (upd L 13) W (x27) x15 x16 x17 x18 x19 x20 x21 x22 x23 x24 x25 x26 x27 := by
  have h2 := h.lift (W' := W) (Below.refl _ _)
  exact ⟨h2.bel, h2.f0, h2.f1, h2.f2, h2.f3, h2.f4, h2.f5, h2.f6, h2.f7, h2.f8, h2.f9, h2.f10, h2.f11, h2.f12, fun _ => rfl, h2.f79, h2.c11, h2.c12, fun _ => hc⟩
theorem Lb.q11 {w w1 : World} {s : Value} {N n bx : Nat} {L : Nat → Bool} {W : World} {x6 x15 x16 x17 x18 x19 x20 x21 x22 x23 x24 x25 x26 x27 : Value} (h : Lb w w1 s N n bx L W x6 x15 x16 x17 x18 x19 x20 x21 x22 x23 x24 x25 x26 x27) (hi : L 1 = false ∨ L 3 = false ∨ L 7 = false ∨ L 9 = false ∨ L 10 = false) : L 11 = false ∧ L 12 = false := by
  have h1 : L 11 = false := by
    cases e : L 11
    · rfl
    · obtain ⟨a, b, c, d, f⟩ := h.c11 e
      simp [a, b, c, d, f] at hi
  refine ⟨h1, ?_⟩
  cases e : L 12
  · rfl
  · rw [h.c12 e] at h1; cases h1
theorem Lb.q13 {w w1 : World} {s : Value} {N n bx : Nat} {L : Nat → Bool} {W : World} {x6 x15 x16 x17 x18 x19 x20 x21 x22 x23 x24 x25 x26 x27 : Value} (h : Lb w w1 s N n bx L W x6 x15 x16 x17 x18 x19 x20 x21 x22 x23 x24 x25 x26 x27) (hi : L 12 = false) : L 13 = false := by
  cases e : L 13
  · rfl
  · rw [h.c13 e] at hi; cases hi
theorem Lb.fin {w w1 : World} {s : Value} {N n bx : Nat} {L : Nat → Bool} {W : World} {x6 x15 x16 x17 x18 x19 x20 x21 x22 x23 x24 x25 x26 x27 : Value} (h : Lb w w1 s N n bx L W x6 x15 x16 x17 x18 x19 x20 x21 x22 x23 x24 x25 x26 x27) (hall : ∀ j, j < 14 → L j = true) (hb : Below w.heap.size w w1) (hN : N ≤ 1073741824) (hn : n ≤ 2097152) (hev : n % 2 = 0) : ∃ b sy, x6 = .pointer (some ⟨b, 0, none⟩) ∧ Ov w W b sy n [] (List.replicate N []) ∧ sy.C = s := by
  have t : ∀ j, j < 14 → L j = true := hall
  obtain ⟨b, e27, hbx, hbb⟩ := h.f12 (t 12 (by decide))
  have e6 := h.f13 (t 13 (by decide))
  have e16 := h.f1 (t 1 (by decide))
  obtain ⟨g3, e18, m3⟩ := h.f3 (t 3 (by decide))
  obtain ⟨g7, e22, m7⟩ := h.f7 (t 7 (by decide))
  obtain ⟨g9, e24, m9⟩ := h.f9 (t 9 (by decide))
  obtain ⟨g10, e25, m10, m10b⟩ := h.f10 (t 10 (by decide))
  have hne := h.f79 (t 7 (by decide)) (t 9 (by decide))
  have row : ∀ {g : Nat} {e : TypeId} {z : Value} {m : Nat}, Mk w W g e z m → m ≤ maxLen → W.ownsRow w.heap.size e 1 (.slice (some ⟨g, 0, none⟩) m m) m (List.replicate m z) := fun {g e z m} hm hl => by
    refine ⟨by simp, .inr ⟨g, m, _, rfl, hm.2, hm.1, Nat.le_refl _, hl, by rw [made_zero6]; simp, ?_⟩⟩
    rw [made_zero6]; simp
  refine ⟨b, ⟨s, x18, x22, x24, x25, .slice none 0 0, .slice none 0 0⟩, e6.trans e27, ⟨Below.step hb h.bel, ⟨hn, hev, by simpa using hN, fun c hc => ?_, fun c hc l hl => ?_⟩, List.replicate n 0, [(0, 0)], ⟨by rw [← e16]; exact hbx, hbb, ?_, ?_, ?_, ?_, World.ownsRow_nil _ _ _ _, World.ownsRow_nil _ _ _ _, ?_, fun k hk e => by simp [Value.ownBlock] at e, fun k hk e => by simp [Value.ownBlock] at e⟩, ⟨by simp, by simp, fun i p hi => ?_, fun p k q hp hq => ?_⟩, by simp⟩, rfl⟩
  · rw [(List.mem_replicate.1 hc).2]; simp
  · rw [(List.mem_replicate.1 hc).2] at hl; simp at hl
  · have e : (inLs n []).map Value.bool = List.replicate n (.bool false) := by
      unfold inLs; rw [List.map_map]; apply List.ext_getElem (by simp); intro i h1 h2; simp
    rw [e, e18]; exact row m3 (by unfold maxLen; omega)
  · have e : i32s (lefts (List.replicate N []) []) = List.replicate N (.int .i32 0) := by
      unfold i32s lefts; rw [List.map_replicate, List.map_replicate]; simp [cnt_nil]
    rw [e, e22, List.length_replicate]; exact row m7 (by unfold maxLen; omega)
  · have e : i32s (nats (List.replicate n 0)) = List.replicate n (.int .i32 0) := by
      unfold i32s nats; rw [List.map_replicate, List.map_replicate]; rfl
    rw [e, e24]; exact row m9 (by unfold maxLen; omega)
  · rw [e25]
    refine ⟨by simp [twp], .inr ⟨g10, 1, _, rfl, m10b, m10, Nat.le_refl _, by unfold maxLen; omega, by rw [made_two6]; simp, ?_⟩⟩
    rw [made_two6]; simp [twp]
  · intro k hk e
    apply hne
    rw [← hk, ← e]
  · rw [List.getElem?_replicate] at hi
    split at hi
    · injection hi with hi
      subst hi
      refine ⟨by simp, [], .nil, by simp, fun k => ?_⟩
      constructor
      · intro h2; simp at h2
      · intro h2
        exfalso
        rw [List.getD_eq_getElem?_getD, List.getElem?_replicate] at h2
        split at h2 <;> simp at h2
    · cases hi
  · exfalso
    have h3 := (List.getElem?_eq_some_iff.1 hq).1
    simp at h3
    omega
set_option maxRecDepth 100000 in
set_option maxHeartbeats 3200000 in
theorem lead_region (Q : Exit → Act → World → Prop) (w w1 : World) (v : Int) (s : Value) (a : Option Addr) (N c n bx : Nat) (y1 y3 y4 y7 y8 y9 y10 y11 y12 y13 y14 y28 y29 y30 y31 y32 y33 y34 y35 y36 y37 y38 y39 y40 y41 y42 y43 y44 y45 y46 y47 y48 y49 y50 y51 y52 y53 y54 y55 y56 y57 y58 y59 y60 y61 y62 y63 y64 : Value) (u6 u15 u16 u17 u18 u19 u20 u21 u22 u23 u24 u25 u26 u27 : Value) (HES : Hid (s = .slice a N c)) (hb : Below w.heap.size w w1) (hN : N ≤ 1073741824) (hn : n ≤ 2097152) (hev : n % 2 = 0) (k1 : w1.cell? ⟨bx, 1, none⟩ = some s)
    (hQ : ∀ (W : World) (x6 x15 x16 x17 x18 x19 x20 x21 x22 x23 x24 x25 x26 x27 : Value) (b : Nat) (sy : Sy), x6 = .pointer (some ⟨b, 0, none⟩) → Ov w W b sy n [] (List.replicate N []) → sy.C = s → Below w1.heap.size w1 W → Q .normal ({ tmps := #[.agg #[.int .i64 v, s], y1, .pointer (some ⟨bx, 0, none⟩), y3, y4, .int .i64 (n : Int), x6, y7, y8, y9, y10, y11, y12, y13, y14, x15, x16, x17, x18, x19, x20, x21, x22, x23, x24, x25, x26, x27, y28, y29, y30, y31, y32, y33, y34, y35, y36, y37, y38, y39, y40, y41, y42, y43, y44, y45, y46, y47, y48, y49, y50, y51, y52, y53, y54, y55, y56, y57, y58, y59, y60, y61, y62, y63, y64], defers := [] } : Act) W) :
    (Code.region 2 #[{ dst := some 15, op := Op.fieldAddr 24 (Operand.tmp 2) 1, type := 0, pos := "onward.go:31", after := #[], guard := none }, { dst := some 16, op := Op.load 22 (Operand.tmp 15), type := 22, pos := "onward.go:31", after := #[{ on := 0, ground := Ground.data }], guard := none }, { dst := some 17, op := Op.move (Operand.tmp 5), type := 3, pos := "onward.go:31", after := #[], guard := none }, { dst := some 18, op := Op.makeSlice 60 (Operand.tmp 17) (Operand.tmp 17), type := 60, pos := "onward.go:31", after := #[{ on := 2, ground := Ground.data }, { on := 2, ground := Ground.data }], guard := none }, { dst := some 19, op := Op.fieldAddr 24 (Operand.tmp 2) 1, type := 0, pos := "onward.go:31", after := #[], guard := none }, { dst := some 20, op := Op.load 22 (Operand.tmp 19), type := 22, pos := "onward.go:31", after := #[{ on := 4, ground := Ground.data }], guard := none }, { dst := some 21, op := Op.call { callee := Callee.builtin Builtin.len, args := #[Operand.tmp 20], argTypes := #[22] }, type := 3, pos := "onward.go:31", after := #[{ on := 5, ground := Ground.data }], guard := none }, { dst := some 22, op := Op.makeSlice 58 (Operand.tmp 21) (Operand.tmp 21), type := 58, pos := "onward.go:31", after := #[{ on := 6, ground := Ground.data }, { on := 6, ground := Ground.data }], guard := none }, { dst := some 23, op := Op.move (Operand.tmp 5), type := 3, pos := "onward.go:31", after := #[], guard := none }, { dst := some 24, op := Op.makeSlice 58 (Operand.tmp 23) (Operand.tmp 23), type := 58, pos := "onward.go:31", after := #[{ on := 8, ground := Ground.data }, { on := 8, ground := Ground.data }], guard := none }, { dst := some 25, op := Op.makeSlice 145 (Operand.const (Value.int IntKind.i64 1)) (Operand.const (Value.int IntKind.i64 1)), type := 145, pos := "onward.go:31", after := #[], guard := none }, { dst := some 26, op := Op.build 147 #[(0, Operand.tmp 16), (1, Operand.tmp 18), (2, Operand.tmp 22), (3, Operand.tmp 24), (4, Operand.tmp 25)], type := 147, pos := "onward.go:31", after := #[{ on := 1, ground := Ground.data }, { on := 3, ground := Ground.data }, { on := 7, ground := Ground.data }, { on := 9, ground := Ground.data }, { on := 10, ground := Ground.data }], guard := none }, { dst := some 27, op := Op.box 147 (Operand.tmp 26), type := 126, pos := "onward.go:31", after := #[{ on := 11, ground := Ground.data }], guard := none }, { dst := some 6, op := Op.assign (Operand.tmp 27), type := 126, pos := "onward.go:31", after := #[{ on := 12, ground := Ground.data }, { on := 0, ground := Ground.phase }, { on := 1, ground := Ground.phase }, { on := 2, ground := Ground.phase }, { on := 3, ground := Ground.phase }, { on := 4, ground := Ground.phase }, { on := 5, ground := Ground.phase }, { on := 6, ground := Ground.phase }, { on := 7, ground := Ground.phase }, { on := 8, ground := Ground.phase }, { on := 9, ground := Ground.phase }, { on := 10, ground := Ground.phase }, { on := 11, ground := Ground.phase }, { on := 12, ground := Ground.phase }], guard := none }] true).wp Tryz.prog Q ({ tmps := #[.agg #[.int .i64 v, s], y1, .pointer (some ⟨bx, 0, none⟩), y3, y4, .int .i64 (n : Int), u6, y7, y8, y9, y10, y11, y12, y13, y14, u15, u16, u17, u18, u19, u20, u21, u22, u23, u24, u25, u26, u27, y28, y29, y30, y31, y32, y33, y34, y35, y36, y37, y38, y39, y40, y41, y42, y43, y44, y45, y46, y47, y48, y49, y50, y51, y52, y53, y54, y55, y56, y57, y58, y59, y60, y61, y62, y63, y64], defers := [] } : Act) w1 := by
  have hmkI := run_make_row' (P := Tryz.prog) 60 4 (.bool false) 1 Tryz.underlying60 infoB6 rfl .i64 .i64 n (by omega) (by omega)
  have hmkE := run_make_row' (P := Tryz.prog) 58 21 (.int .i32 0) 4 Tryz.underlying58 infoI6 rfl .i64 .i64 N (by omega) (by omega)
  have hmkF := run_make_row' (P := Tryz.prog) 58 21 (.int .i32 0) 4 Tryz.underlying58 infoI6 rfl .i64 .i64 n (by omega) (by omega)
  have hmkP := made_place8
  refine wp_region_any (by kernel_rfl) ?_
  refine any_inv (LbI w w1 v s N n bx y1 y3 y4 y7 y8 y9 y10 y11 y12 y13 y14 y28 y29 y30 y31 y32 y33 y34 y35 y36 y37 y38 y39 y40 y41 y42 y43 y44 y45 y46 y47 y48 y49 y50 y51 y52 y53 y54 y55 y56 y57 y58 y59 y60 y61 y62 y63 y64) (back_of (by kernel_rfl)) ?_ ?_ _ _ _ _ rfl (by decide) ⟨rfl, fun _ => false, fun j hj => by simp [Array.getD, hj], u6, u15, u16, u17, u18, u19, u20, u21, u22, u23, u24, u25, u26, u27, rfl, ⟨(Below.refl _ _).drew, fun h => Bool.noConfusion h, fun h => Bool.noConfusion h, fun h => Bool.noConfusion h, fun h => Bool.noConfusion h, fun h => Bool.noConfusion h, fun h => Bool.noConfusion h, fun h => Bool.noConfusion h, fun h => Bool.noConfusion h, fun h => Bool.noConfusion h, fun h => Bool.noConfusion h, fun h => Bool.noConfusion h, fun h => Bool.noConfusion h, fun h => Bool.noConfusion h, fun h => Bool.noConfusion h, fun h _ => Bool.noConfusion h, fun h => Bool.noConfusion h, fun h => Bool.noConfusion h, fun h => Bool.noConfusion h⟩⟩
  · intro listed a' W i o hI ho hl hdep K hK
    obtain ⟨hsz, L, hlk, x6, x15, x16, x17, x18, x19, x20, x21, x22, x23, x24, x25, x26, x27, rfl, hB⟩ := hI
    have hw : w.heap.size ≤ W.heap.size := Nat.le_trans hb.size hB.bel.size
    have c1 : W.cell? ⟨bx, 1, none⟩ = some s := (hB.bel.cell (p := ⟨bx, 1, none⟩) (World.block_lt_of_cell? w1 _ k1)).trans k1
    have hi : i < 14 := (Array.getElem?_eq_some_iff.1 ho).1
    rcases (show i = 0 ∨ i = 1 ∨ i = 2 ∨ i = 3 ∨ i = 4 ∨ i = 5 ∨ i = 6 ∨ i = 7 ∨ i = 8 ∨ i = 9 ∨ i = 10 ∨ i = 11 ∨ i = 12 ∨ i = 13 by omega) with rfl | rfl | rfl | rfl | rfl | rfl | rfl | rfl | rfl | rfl | rfl | rfl | rfl | rfl
    · obtain rfl := (Option.some.inj ho)
      have hno : L 0 = false := (hlk 0 (by decide)).symm.trans (getD_ft14 hsz (by decide) hl)
      obtain ⟨hs2, hl2⟩ := lnk14 hsz hlk (i := 0) (by decide)
      refine wpOp_step rfl fun K' hK' => ?_
      go_simp
      exact hK' _ _ (hK _ _ ⟨hs2, _, hl2, _, _, _, _, _, _, _, _, _, _, _, _, _, _, rfl, hB.s0 ⟩)
    · obtain rfl := (Option.some.inj ho)
      have hno : L 1 = false := (hlk 1 (by decide)).symm.trans (getD_ft14 hsz (by decide) hl)
      obtain ⟨hs2, hl2⟩ := lnk14 hsz hlk (i := 1) (by decide)
      have d0 : L 0 = true := (hlk 0 (by decide)).symm.trans (hdep ⟨0, .data⟩ (by simp) rfl)
      have e0 := hB.f0 d0
      obtain ⟨q11, q12⟩ := hB.q11 (by simp [show L 1 = false from hno])
      subst e0
      refine wpOp_step rfl fun K' hK' => ?_
      go_simp
      exact hK' _ _ (hK _ _ ⟨hs2, _, hl2, _, _, _, _, _, _, _, _, _, _, _, _, _, _, rfl, hB.s1 q11 q12⟩)
    · obtain rfl := (Option.some.inj ho)
      have hno : L 2 = false := (hlk 2 (by decide)).symm.trans (getD_ft14 hsz (by decide) hl)
      obtain ⟨hs2, hl2⟩ := lnk14 hsz hlk (i := 2) (by decide)
      refine wpOp_step rfl fun K' hK' => ?_
      go_simp
      exact hK' _ _ (hK _ _ ⟨hs2, _, hl2, _, _, _, _, _, _, _, _, _, _, _, _, _, _, rfl, hB.s2 ⟩)
    · obtain rfl := (Option.some.inj ho)
      have hno : L 3 = false := (hlk 3 (by decide)).symm.trans (getD_ft14 hsz (by decide) hl)
      obtain ⟨hs2, hl2⟩ := lnk14 hsz hlk (i := 3) (by decide)
      have d2 : L 2 = true := (hlk 2 (by decide)).symm.trans (hdep ⟨2, .data⟩ (by simp) rfl)
      have e2 := hB.f2 d2
      obtain ⟨q11, q12⟩ := hB.q11 (by simp [show L 3 = false from hno])
      subst e2
      refine wpOp_step rfl fun K' hK' => ?_
      go_simp
      exact hK' _ _ (hK _ _ ⟨hs2, _, hl2, _, _, _, _, _, _, _, _, _, _, _, _, _, _, rfl, hB.s3 q11 q12 hw⟩)
    · obtain rfl := (Option.some.inj ho)
      have hno : L 4 = false := (hlk 4 (by decide)).symm.trans (getD_ft14 hsz (by decide) hl)
      obtain ⟨hs2, hl2⟩ := lnk14 hsz hlk (i := 4) (by decide)
      refine wpOp_step rfl fun K' hK' => ?_
      go_simp
      exact hK' _ _ (hK _ _ ⟨hs2, _, hl2, _, _, _, _, _, _, _, _, _, _, _, _, _, _, rfl, hB.s4 ⟩)
    · obtain rfl := (Option.some.inj ho)
      have hno : L 5 = false := (hlk 5 (by decide)).symm.trans (getD_ft14 hsz (by decide) hl)
      obtain ⟨hs2, hl2⟩ := lnk14 hsz hlk (i := 5) (by decide)
      have d4 : L 4 = true := (hlk 4 (by decide)).symm.trans (hdep ⟨4, .data⟩ (by simp) rfl)
      have e4 := hB.f4 d4
      subst e4
      refine wpOp_step rfl fun K' hK' => ?_
      go_simp
      exact hK' _ _ (hK _ _ ⟨hs2, _, hl2, _, _, _, _, _, _, _, _, _, _, _, _, _, _, rfl, hB.s5 ⟩)
    · obtain rfl := (Option.some.inj ho)
      have hno : L 6 = false := (hlk 6 (by decide)).symm.trans (getD_ft14 hsz (by decide) hl)
      obtain ⟨hs2, hl2⟩ := lnk14 hsz hlk (i := 6) (by decide)
      have d5 : L 5 = true := (hlk 5 (by decide)).symm.trans (hdep ⟨5, .data⟩ (by simp) rfl)
      have e5 := hB.f5 d5
      subst e5
      have hsl := HES.out
      subst hsl
      refine wpOp_step rfl fun K' hK' => ?_
      go_simp
      exact hK' _ _ (hK _ _ ⟨hs2, _, hl2, _, _, _, _, _, _, _, _, _, _, _, _, _, _, rfl, hB.s6 ⟩)
    · obtain rfl := (Option.some.inj ho)
      have hno : L 7 = false := (hlk 7 (by decide)).symm.trans (getD_ft14 hsz (by decide) hl)
      obtain ⟨hs2, hl2⟩ := lnk14 hsz hlk (i := 7) (by decide)
      have d6 : L 6 = true := (hlk 6 (by decide)).symm.trans (hdep ⟨6, .data⟩ (by simp) rfl)
      have e6 := hB.f6 d6
      obtain ⟨q11, q12⟩ := hB.q11 (by simp [show L 7 = false from hno])
      subst e6
      refine wpOp_step rfl fun K' hK' => ?_
      go_simp
      exact hK' _ _ (hK _ _ ⟨hs2, _, hl2, _, _, _, _, _, _, _, _, _, _, _, _, _, _, rfl, hB.s7 q11 q12 hw⟩)
    · obtain rfl := (Option.some.inj ho)
      have hno : L 8 = false := (hlk 8 (by decide)).symm.trans (getD_ft14 hsz (by decide) hl)
      obtain ⟨hs2, hl2⟩ := lnk14 hsz hlk (i := 8) (by decide)
      refine wpOp_step rfl fun K' hK' => ?_
      go_simp
      exact hK' _ _ (hK _ _ ⟨hs2, _, hl2, _, _, _, _, _, _, _, _, _, _, _, _, _, _, rfl, hB.s8 ⟩)
    · obtain rfl := (Option.some.inj ho)
      have hno : L 9 = false := (hlk 9 (by decide)).symm.trans (getD_ft14 hsz (by decide) hl)
      obtain ⟨hs2, hl2⟩ := lnk14 hsz hlk (i := 9) (by decide)
      have d8 : L 8 = true := (hlk 8 (by decide)).symm.trans (hdep ⟨8, .data⟩ (by simp) rfl)
      have e8 := hB.f8 d8
      obtain ⟨q11, q12⟩ := hB.q11 (by simp [show L 9 = false from hno])
      subst e8
      refine wpOp_step rfl fun K' hK' => ?_
      go_simp
      exact hK' _ _ (hK _ _ ⟨hs2, _, hl2, _, _, _, _, _, _, _, _, _, _, _, _, _, _, rfl, hB.s9 q11 q12 hw⟩)
    · obtain rfl := (Option.some.inj ho)
      have hno : L 10 = false := (hlk 10 (by decide)).symm.trans (getD_ft14 hsz (by decide) hl)
      obtain ⟨hs2, hl2⟩ := lnk14 hsz hlk (i := 10) (by decide)
      obtain ⟨q11, q12⟩ := hB.q11 (by simp [show L 10 = false from hno])
      refine wpOp_step rfl fun K' hK' => ?_
      go_simp
      exact hK' _ _ (hK _ _ ⟨hs2, _, hl2, _, _, _, _, _, _, _, _, _, _, _, _, _, _, rfl, hB.s10 q11 q12 hw⟩)
    · obtain rfl := (Option.some.inj ho)
      have hno : L 11 = false := (hlk 11 (by decide)).symm.trans (getD_ft14 hsz (by decide) hl)
      obtain ⟨hs2, hl2⟩ := lnk14 hsz hlk (i := 11) (by decide)
      have d1 : L 1 = true := (hlk 1 (by decide)).symm.trans (hdep ⟨1, .data⟩ (by simp) rfl)
      have d3 : L 3 = true := (hlk 3 (by decide)).symm.trans (hdep ⟨3, .data⟩ (by simp) rfl)
      have d7 : L 7 = true := (hlk 7 (by decide)).symm.trans (hdep ⟨7, .data⟩ (by simp) rfl)
      have d9 : L 9 = true := (hlk 9 (by decide)).symm.trans (hdep ⟨9, .data⟩ (by simp) rfl)
      have d10 : L 10 = true := (hlk 10 (by decide)).symm.trans (hdep ⟨10, .data⟩ (by simp) rfl)
      have ef1 := hB.f1 d1
      subst ef1
      have hsl := HES.out
      subst hsl
      obtain ⟨g3, ef3, -⟩ := hB.f3 d3
      subst ef3
      obtain ⟨g7, ef7, -⟩ := hB.f7 d7
      subst ef7
      obtain ⟨g9, ef9, -⟩ := hB.f9 d9
      subst ef9
      obtain ⟨g10, ef10, -⟩ := hB.f10 d10
      subst ef10
      refine wpOp_step rfl fun K' hK' => ?_
      go_simp
      exact hK' _ _ (hK _ _ ⟨hs2, _, hl2, _, _, _, _, _, _, _, _, _, _, _, _, _, _, rfl, hB.s11 ⟨d1, d3, d7, d9, d10⟩⟩)
    · obtain rfl := (Option.some.inj ho)
      have hno : L 12 = false := (hlk 12 (by decide)).symm.trans (getD_ft14 hsz (by decide) hl)
      obtain ⟨hs2, hl2⟩ := lnk14 hsz hlk (i := 12) (by decide)
      have d11 : L 11 = true := (hlk 11 (by decide)).symm.trans (hdep ⟨11, .data⟩ (by simp) rfl)
      have q13 := hB.q13 hno
      obtain ⟨d1, d3, d7, d9, d10⟩ := hB.c11 d11
      have ef1 := hB.f1 d1
      subst ef1
      have hsl := HES.out
      subst hsl
      obtain ⟨g3, ef3, -⟩ := hB.f3 d3
      subst ef3
      obtain ⟨g7, ef7, -⟩ := hB.f7 d7
      subst ef7
      obtain ⟨g9, ef9, -⟩ := hB.f9 d9
      subst ef9
      obtain ⟨g10, ef10, -⟩ := hB.f10 d10
      subst ef10
      have ef11 := hB.f11 d11
      subst ef11
      refine wpOp_step rfl fun K' hK' => ?_
      go_simp
      exact hK' _ _ (hK _ _ ⟨hs2, _, hl2, _, _, _, _, _, _, _, _, _, _, _, _, _, _, rfl, hB.s12 d11 q13 hw⟩)
    · obtain rfl := (Option.some.inj ho)
      have hno : L 13 = false := (hlk 13 (by decide)).symm.trans (getD_ft14 hsz (by decide) hl)
      obtain ⟨hs2, hl2⟩ := lnk14 hsz hlk (i := 13) (by decide)
      have d12 : L 12 = true := (hlk 12 (by decide)).symm.trans (hdep ⟨12, .data⟩ (by simp) rfl)
      obtain ⟨b12, ef12, -⟩ := hB.f12 d12
      subst ef12
      refine wpOp_step rfl fun K' hK' => ?_
      go_simp
      exact hK' _ _ (hK _ _ ⟨hs2, _, hl2, _, _, _, _, _, _, _, _, _, _, _, _, _, _, rfl, hB.s13 d12⟩)
  · intro listed a' W hI hall
    obtain ⟨hsz, L, hlk, x6, x15, x16, x17, x18, x19, x20, x21, x22, x23, x24, x25, x26, x27, rfl, hB⟩ := hI
    obtain ⟨b, sy, e6, hov, hC⟩ := hB.fin (fun j hj => (hlk j hj).symm.trans (hall j hj)) hb hN hn hev
    exact hQ W x6 x15 x16 x17 x18 x19 x20 x21 x22 x23 x24 x25 x26 x27 b sy e6 hov hC hB.bel
end Go.Proofs.YtjajafeaengnjaaGreatDoor
set_option linter.unusedSimpArgs false
set_option linter.unusedVariables false
namespace Go.Proofs.YtjajafeaengnjaaGreatDoor
open Go Go.RowKit

/-- the first j clauses of a formula -/
def ent (css : List (List Int)) (j : Nat) : List (List Int) := css.take j ++ List.replicate (css.length - j) []
theorem ent_zero (css : List (List Int)) : ent css 0 = List.replicate css.length [] := by simp [ent]
theorem ent_all (css : List (List Int)) : ent css css.length = css := by simp [ent]
theorem ent_len {css : List (List Int)} {j : Nat} (h : j ≤ css.length) : (ent css j).length = css.length := by simp [ent]; omega
theorem ent_gt {css : List (List Int)} {j k : Nat} (h : j < k) : (ent css j).getD k [] = [] := by
  unfold ent
  rw [List.getD_eq_getElem?_getD, List.getElem?_append_right (by rw [List.length_take]; omega), List.getElem?_replicate]
  split <;> rfl
theorem ent_at {css : List (List Int)} {j : Nat} (h : j < css.length) : (ent css j).getD j [] = [] := by
  unfold ent
  rw [List.getD_eq_getElem?_getD, List.getElem?_append_right (by rw [List.length_take]; omega), List.getElem?_replicate]
  split <;> rfl
theorem ent_set {css : List (List Int)} {j : Nat} (h : j < css.length) : (ent css j).set j (css.getD j []) = ent css (j + 1) := by
  apply List.ext_getElem?
  intro i
  by_cases e : j = i
  · subst e
    rw [List.getElem?_set_self (by rw [ent_len (by omega)]; exact h)]
    unfold ent
    rw [List.getElem?_append_left (by rw [List.length_take]; omega), List.getElem?_take_of_lt (by omega), List.getElem?_eq_getElem h, List.getD_eq_getElem?_getD, List.getElem?_eq_getElem h]; rfl
  · rw [List.getElem?_set_ne e]
    unfold ent
    by_cases hi : i < j
    · rw [List.getElem?_append_left (by rw [List.length_take]; omega), List.getElem?_append_left (by rw [List.length_take]; omega), List.getElem?_take_of_lt hi, List.getElem?_take_of_lt (by omega)]
    · rw [List.getElem?_append_right (by rw [List.length_take]; omega), List.getElem?_append_right (by rw [List.length_take]; omega), List.getElem?_replicate, List.getElem?_replicate, List.length_take, List.length_take]
      by_cases h3 : i < css.length
      · rw [if_pos (by omega), if_pos (by omega)]
      · rw [if_neg (by omega), if_neg (by omega)]
theorem lsum_append (a b : List (List Int)) : lsum (a ++ b) = lsum a + lsum b := by simp [lsum]
theorem ent_sum {css : List (List Int)} {j : Nat} (h : j < css.length) : lsum (ent css j) + (css.getD j []).length ≤ lsum css := by
  have h1 : lsum (ent css j) = lsum (css.take j) := by
    unfold ent; rw [lsum_append]
    have : lsum (List.replicate (css.length - j) []) = 0 := by simp [lsum]
    omega
  have h2 : lsum css = lsum (css.take j) + lsum (css.drop j) := by rw [← lsum_append, List.take_append_drop]
  have h3 : css.drop j = css.getD j [] :: css.drop (j + 1) := by
    rw [List.drop_eq_getElem_cons h, List.getD_eq_getElem?_getD, List.getElem?_eq_getElem h]; rfl
  have h4 : lsum (css.drop j) = (css.getD j []).length + lsum (css.drop (j + 1)) := by rw [h3]; simp [lsum]
  omega
theorem idx_lt2 {l : Int} (h : fmd l = true) : idx l < 2 * varOf l := by
  have hr := fmd_range h
  rcases (show 0 < l ∨ l < 0 by omega) with a | a
  · rw [(there_pos h a).1, (there_pos h a).2]; omega
  · rw [(there_neg h a).1, (there_neg h a).2]; omega
set_option maxRecDepth 100000 in
set_option maxHeartbeats 8000000 in
theorem uBegin_any (v : Int) (s : Value) (css : List (List Int)) (w : World) (hr : Rds w s css) (hN : css.length ≤ 1073741824) (hL : ∀ c ∈ css, c.length ≤ 1073741824) (hsz : szs css = (lsum css : Int)) (hs31 : lsum css ≤ 2147483647) (hf : ∀ c ∈ css, ∀ l ∈ c, fmd l = true) :
    Calls Tryz.prog 112 #[.agg #[.int .i64 v, s]] w fun e w' => ∃ b sz Q, e = .returned (.pointer (some ⟨b, 0, none⟩)) ∧ Cw w w' b sz (2 * (grt css).toNat) css [] Q [] ∧ sz.C = s ∧ Inv css [] Q := by
  have HR : Hid (Rds w s css) := hr
  obtain ⟨a, c, es, h1, h2, -⟩ := hr.form
  have hg := grt_range css
  obtain ⟨G, hG⟩ : ∃ G : Nat, grt css = (G : Int) := ⟨(grt css).toNat, by omega⟩
  have hGb : G ≤ 1048576 := by omega
  have HG : Hid (grt css = (G : Int)) := hG
  have HLs : Hid (∀ c ∈ css, c.length ≤ 1073741824) := hL
  have HSz : Hid (szs css = (lsum css : Int) ∧ lsum css ≤ 2147483647) := ⟨hsz, hs31⟩
  have HES : Hid (s = .slice a css.length c) := es
  clear hr hg hG hL hsz hs31 es
  go_enter Tryz.func112, Tryz.ntmps112
  go_wp2_with fail
  refine (uGreatest_any v s css _ (HR.out.below (below_box _ _)) hN HLs.out).mono ?_
  rintro e w1 ⟨rfl, bel1⟩
  rw [HG.out]
  have HB1 : Hid (Below w.heap.size w w1) := Below.step (below_box _ _) bel1
  have k0 : w1.cell? ⟨w.heap.size, 0, none⟩ = some (.int .i64 v) := (bel1.cell (p := ⟨w.heap.size, 0, none⟩) (by rw [World.size_alloc]; exact Nat.lt_succ_self _)).trans (box0 w _ _ _)
  have k1 : w1.cell? ⟨w.heap.size, 1, none⟩ = some s := (bel1.cell (p := ⟨w.heap.size, 1, none⟩) (by rw [World.size_alloc]; exact Nat.lt_succ_self _)).trans (box1 w _ _ _)
  have HR1 : Hid (Rds w1 s css) := HR.out.below HB1.out
  clear bel1
  obtain ⟨n, hn2⟩ : ∃ n : Nat, 2 * (G : Int) = (n : Int) := ⟨2 * G, by omega⟩
  have hn : n ≤ 2097152 := by omega
  have HN2 : Hid (n = 2 * G) := by show _ = _; omega
  have HRd : Hid (∀ W, Below w1.heap.size w1 W → Rds W s css) := fun W hW => HR1.out.below hW
  have HFitN : Hid (n ≤ 2097152 ∧ n % 2 = 0) := ⟨hn, by omega⟩
  have hGw : IntKind.i64.wrap (2 * (G : Int)) = (n : Int) := by rw [IntKind.wrap_i64]; omega
  go_upto_region 2 with fail
  go_cut [4] from 10 to 29 (fun p wx => ∃ b sz, p = .pointer (some ⟨b, 0, none⟩) ∧ Ce w wx b sz n (List.replicate css.length []) (fun _ => false) ∧ sz.C = s ∧ Below w1.heap.size w1 wx)
  case first =>
    have HCut : Hid (∀ (L : Nat → Bool) (W : World) (x4 x10 x11 x12 x13 x14 x15 x16 x17 x18 x19 x20 x21 x22 x23 x24 x25 x26 x27 x28 x29 : Value), (∀ j, j < 21 → L j = true) → Bg w w1 v s css.length (lsum css) n w.heap.size L W x4 x10 x11 x12 x13 x14 x15 x16 x17 x18 x19 x20 x21 x22 x23 x24 x25 x26 x27 x28 x29 → ∃ b sz, x4 = .pointer (some ⟨b, 0, none⟩) ∧ Ce w W b sz n (List.replicate css.length []) (fun _ => false) ∧ sz.C = s ∧ Below w1.heap.size w1 W) := fun L W x4 x10 x11 x12 x13 x14 x15 x16 x17 x18 x19 x20 x21 x22 x23 x24 x25 x26 x27 x28 x29 hall hB => by { obtain ⟨b, sz, h1, h2, h3⟩ := hB.fin hall HB1.out hN HFitN.out.1 HFitN.out.2 (by have := HSz.out.2; unfold maxLen; omega); exact ⟨b, sz, h1, h2, h3, hB.bel⟩ }
    have hmkI := run_make_row' (P := Tryz.prog) 60 4 (.bool false) 1 Tryz.underlying60 infoB6 rfl .i64 .i64 n (by omega) (by omega)
    have hmkE := run_make_row' (P := Tryz.prog) 58 21 (.int .i32 0) 4 Tryz.underlying58 infoI6 rfl .i64 .i64 css.length (by omega) (by omega)
    have hmkF := run_make_row' (P := Tryz.prog) 58 21 (.int .i32 0) 4 Tryz.underlying58 infoI6 rfl .i64 .i64 n (by omega) (by omega)
    have hmkP := made_place (lsum css) (by have := HSz.out.2; omega)
    have hszl : lsum css ≤ 2147483647 := HSz.out.2
    have hwsz : IntKind.i64.wrap ((lsum css : Int) + 1) = (lsum css : Int) + 1 := by rw [IntKind.wrap_i64]; omega
    refine wp_region_any (by kernel_rfl) ?_
    refine any_inv (BgI w w1 v s css.length (lsum css) n w.heap.size (.agg #[.int .i64 v, s]) (.int .i64 (G : Int)) (.int .i64 (n : Int))) (back_of (by kernel_rfl)) ?_ ?_ _ _ _ _ rfl (by decide) ⟨rfl, fun _ => false, fun j hj => by simp [Array.getD, hj], undef, undef, undef, undef, undef, undef, undef, undef, undef, undef, undef, undef, undef, undef, undef, undef, undef, undef, undef, undef, undef, rfl, ⟨(Below.refl _ _).drew, fun h => Bool.noConfusion h, fun h => Bool.noConfusion h, fun h => Bool.noConfusion h, fun h => Bool.noConfusion h, fun h => Bool.noConfusion h, fun h => Bool.noConfusion h, fun h => Bool.noConfusion h, fun h => Bool.noConfusion h, fun h => Bool.noConfusion h, fun h => Bool.noConfusion h, fun h => Bool.noConfusion h, fun h => Bool.noConfusion h, fun h => Bool.noConfusion h, fun h => Bool.noConfusion h, fun h => Bool.noConfusion h, fun h => Bool.noConfusion h, fun h => Bool.noConfusion h, fun h => Bool.noConfusion h, fun h => Bool.noConfusion h, fun h => Bool.noConfusion h, fun h => Bool.noConfusion h, fun h _ => Bool.noConfusion h, fun h => Bool.noConfusion h, fun h => Bool.noConfusion h, fun h => Bool.noConfusion h⟩⟩
    · intro listed a W i o hI ho hl hdep K hK
      obtain ⟨hsz, L, hlk, x4, x10, x11, x12, x13, x14, x15, x16, x17, x18, x19, x20, x21, x22, x23, x24, x25, x26, x27, x28, x29, rfl, hB⟩ := hI
      have hw : w.heap.size ≤ W.heap.size := Nat.le_trans HB1.out.size hB.bel.size
      have c0 : W.cell? ⟨w.heap.size, 0, none⟩ = some (.int .i64 v) := (hB.bel.cell (p := ⟨w.heap.size, 0, none⟩) (World.block_lt_of_cell? w1 _ k0)).trans k0
      have c1 : W.cell? ⟨w.heap.size, 1, none⟩ = some s := (hB.bel.cell (p := ⟨w.heap.size, 1, none⟩) (World.block_lt_of_cell? w1 _ k1)).trans k1
      have hi : i < 21 := (Array.getElem?_eq_some_iff.1 ho).1
      rcases (show i = 0 ∨ i = 1 ∨ i = 2 ∨ i = 3 ∨ i = 4 ∨ i = 5 ∨ i = 6 ∨ i = 7 ∨ i = 8 ∨ i = 9 ∨ i = 10 ∨ i = 11 ∨ i = 12 ∨ i = 13 ∨ i = 14 ∨ i = 15 ∨ i = 16 ∨ i = 17 ∨ i = 18 ∨ i = 19 ∨ i = 20 by omega) with rfl | rfl | rfl | rfl | rfl | rfl | rfl | rfl | rfl | rfl | rfl | rfl | rfl | rfl | rfl | rfl | rfl | rfl | rfl | rfl | rfl
      · obtain rfl := (Option.some.inj ho)
        have hno : L 0 = false := (hlk 0 (by decide)).symm.trans (getD_ft hsz (by decide) hl)
        obtain ⟨hs2, hl2⟩ := lnk hsz hlk (i := 0) (by decide)
        refine wpOp_step rfl fun K' hK' => ?_
        go_simp
        exact hK' _ _ (hK _ _ ⟨hs2, _, hl2, _, _, _, _, _, _, _, _, _, _, _, _, _, _, _, _, _, _, _, _, _, rfl, hB.s0 ⟩)
      · obtain rfl := (Option.some.inj ho)
        have hno : L 1 = false := (hlk 1 (by decide)).symm.trans (getD_ft hsz (by decide) hl)
        obtain ⟨hs2, hl2⟩ := lnk hsz hlk (i := 1) (by decide)
        have d0 : L 0 = true := (hlk 0 (by decide)).symm.trans (hdep ⟨0, .data⟩ (by simp) rfl)
        have ef0 := hB.f0 d0
        obtain ⟨q18, q19⟩ := hB.q18 (by simp [show L 1 = false from hno])
        subst ef0
        refine wpOp_step rfl fun K' hK' => ?_
        go_simp
        exact hK' _ _ (hK _ _ ⟨hs2, _, hl2, _, _, _, _, _, _, _, _, _, _, _, _, _, _, _, _, _, _, _, _, _, rfl, hB.s1 q18 q19⟩)
      · obtain rfl := (Option.some.inj ho)
        have hno : L 2 = false := (hlk 2 (by decide)).symm.trans (getD_ft hsz (by decide) hl)
        obtain ⟨hs2, hl2⟩ := lnk hsz hlk (i := 2) (by decide)
        refine wpOp_step rfl fun K' hK' => ?_
        go_simp
        exact hK' _ _ (hK _ _ ⟨hs2, _, hl2, _, _, _, _, _, _, _, _, _, _, _, _, _, _, _, _, _, _, _, _, _, rfl, hB.s2 ⟩)
      · obtain rfl := (Option.some.inj ho)
        have hno : L 3 = false := (hlk 3 (by decide)).symm.trans (getD_ft hsz (by decide) hl)
        obtain ⟨hs2, hl2⟩ := lnk hsz hlk (i := 3) (by decide)
        have d2 : L 2 = true := (hlk 2 (by decide)).symm.trans (hdep ⟨2, .data⟩ (by simp) rfl)
        have ef2 := hB.f2 d2
        obtain ⟨q18, q19⟩ := hB.q18 (by simp [show L 3 = false from hno])
        subst ef2
        refine wpOp_step rfl fun K' hK' => ?_
        go_simp
        exact hK' _ _ (hK _ _ ⟨hs2, _, hl2, _, _, _, _, _, _, _, _, _, _, _, _, _, _, _, _, _, _, _, _, _, rfl, hB.s3 q18 q19 hw⟩)
      · obtain rfl := (Option.some.inj ho)
        have hno : L 4 = false := (hlk 4 (by decide)).symm.trans (getD_ft hsz (by decide) hl)
        obtain ⟨hs2, hl2⟩ := lnk hsz hlk (i := 4) (by decide)
        refine wpOp_step rfl fun K' hK' => ?_
        go_simp
        exact hK' _ _ (hK _ _ ⟨hs2, _, hl2, _, _, _, _, _, _, _, _, _, _, _, _, _, _, _, _, _, _, _, _, _, rfl, hB.s4 ⟩)
      · obtain rfl := (Option.some.inj ho)
        have hno : L 5 = false := (hlk 5 (by decide)).symm.trans (getD_ft hsz (by decide) hl)
        obtain ⟨hs2, hl2⟩ := lnk hsz hlk (i := 5) (by decide)
        have d4 : L 4 = true := (hlk 4 (by decide)).symm.trans (hdep ⟨4, .data⟩ (by simp) rfl)
        have ef4 := hB.f4 d4
        subst ef4
        refine wpOp_step rfl fun K' hK' => ?_
        go_simp
        exact hK' _ _ (hK _ _ ⟨hs2, _, hl2, _, _, _, _, _, _, _, _, _, _, _, _, _, _, _, _, _, _, _, _, _, rfl, hB.s5 ⟩)
      · obtain rfl := (Option.some.inj ho)
        have hno : L 6 = false := (hlk 6 (by decide)).symm.trans (getD_ft hsz (by decide) hl)
        obtain ⟨hs2, hl2⟩ := lnk hsz hlk (i := 6) (by decide)
        have d5 : L 5 = true := (hlk 5 (by decide)).symm.trans (hdep ⟨5, .data⟩ (by simp) rfl)
        have ef5 := hB.f5 d5
        subst ef5
        refine wpOp_step rfl fun K' hK' => ?_
        have hsl := HES.out
        subst hsl
        go_simp
        exact hK' _ _ (hK _ _ ⟨hs2, _, hl2, _, _, _, _, _, _, _, _, _, _, _, _, _, _, _, _, _, _, _, _, _, rfl, hB.s6 ⟩)
      · obtain rfl := (Option.some.inj ho)
        have hno : L 7 = false := (hlk 7 (by decide)).symm.trans (getD_ft hsz (by decide) hl)
        obtain ⟨hs2, hl2⟩ := lnk hsz hlk (i := 7) (by decide)
        have d6 : L 6 = true := (hlk 6 (by decide)).symm.trans (hdep ⟨6, .data⟩ (by simp) rfl)
        have ef6 := hB.f6 d6
        obtain ⟨q18, q19⟩ := hB.q18 (by simp [show L 7 = false from hno])
        subst ef6
        refine wpOp_step rfl fun K' hK' => ?_
        go_simp
        exact hK' _ _ (hK _ _ ⟨hs2, _, hl2, _, _, _, _, _, _, _, _, _, _, _, _, _, _, _, _, _, _, _, _, _, rfl, hB.s7 q18 q19 hw⟩)
      · obtain rfl := (Option.some.inj ho)
        have hno : L 8 = false := (hlk 8 (by decide)).symm.trans (getD_ft hsz (by decide) hl)
        obtain ⟨hs2, hl2⟩ := lnk hsz hlk (i := 8) (by decide)
        refine wpOp_step rfl fun K' hK' => ?_
        go_simp
        exact hK' _ _ (hK _ _ ⟨hs2, _, hl2, _, _, _, _, _, _, _, _, _, _, _, _, _, _, _, _, _, _, _, _, _, rfl, hB.s8 ⟩)
      · obtain rfl := (Option.some.inj ho)
        have hno : L 9 = false := (hlk 9 (by decide)).symm.trans (getD_ft hsz (by decide) hl)
        obtain ⟨hs2, hl2⟩ := lnk hsz hlk (i := 9) (by decide)
        have d8 : L 8 = true := (hlk 8 (by decide)).symm.trans (hdep ⟨8, .data⟩ (by simp) rfl)
        have ef8 := hB.f8 d8
        obtain ⟨q18, q19⟩ := hB.q18 (by simp [show L 9 = false from hno])
        subst ef8
        refine wpOp_step rfl fun K' hK' => ?_
        go_simp
        exact hK' _ _ (hK _ _ ⟨hs2, _, hl2, _, _, _, _, _, _, _, _, _, _, _, _, _, _, _, _, _, _, _, _, _, rfl, hB.s9 q18 q19 hw⟩)
      · obtain rfl := (Option.some.inj ho)
        have hno : L 10 = false := (hlk 10 (by decide)).symm.trans (getD_ft hsz (by decide) hl)
        obtain ⟨hs2, hl2⟩ := lnk hsz hlk (i := 10) (by decide)
        refine wpOp_step rfl fun K' hK' => ?_
        go_simp
        exact hK' _ _ (hK _ _ ⟨hs2, _, hl2, _, _, _, _, _, _, _, _, _, _, _, _, _, _, _, _, _, _, _, _, _, rfl, hB.s10 ⟩)
      · obtain rfl := (Option.some.inj ho)
        have hno : L 11 = false := (hlk 11 (by decide)).symm.trans (getD_ft hsz (by decide) hl)
        obtain ⟨hs2, hl2⟩ := lnk hsz hlk (i := 11) (by decide)
        have d10 : L 10 = true := (hlk 10 (by decide)).symm.trans (hdep ⟨10, .data⟩ (by simp) rfl)
        have ef10 := hB.f10 d10
        subst ef10
        refine wpOp_step rfl fun K' hK' => ?_
        go_simp
        go_at_call 125
        refine (cnfSize_any v s css W (HRd.out W hB.bel)).mono ?_
        rintro e W2 ⟨rfl, bel2⟩
        rw [HSz.out.1]
        exact hK' _ _ (hK _ _ ⟨hs2, _, hl2, _, _, _, _, _, _, _, _, _, _, _, _, _, _, _, _, _, _, _, _, _, rfl, hB.s11 bel2⟩)
      · obtain rfl := (Option.some.inj ho)
        have hno : L 12 = false := (hlk 12 (by decide)).symm.trans (getD_ft hsz (by decide) hl)
        obtain ⟨hs2, hl2⟩ := lnk hsz hlk (i := 12) (by decide)
        have d11 : L 11 = true := (hlk 11 (by decide)).symm.trans (hdep ⟨11, .data⟩ (by simp) rfl)
        have ef11 := hB.f11 d11
        subst ef11
        refine wpOp_step rfl fun K' hK' => ?_
        go_simp
        exact hK' _ _ (hK _ _ ⟨hs2, _, hl2, _, _, _, _, _, _, _, _, _, _, _, _, _, _, _, _, _, _, _, _, _, rfl, hB.s12 ⟩)
      · obtain rfl := (Option.some.inj ho)
        have hno : L 13 = false := (hlk 13 (by decide)).symm.trans (getD_ft hsz (by decide) hl)
        obtain ⟨hs2, hl2⟩ := lnk hsz hlk (i := 13) (by decide)
        have d12 : L 12 = true := (hlk 12 (by decide)).symm.trans (hdep ⟨12, .data⟩ (by simp) rfl)
        have ef12 := hB.f12 d12
        obtain ⟨q18, q19⟩ := hB.q18 (by simp [show L 13 = false from hno])
        subst ef12
        refine wpOp_step rfl fun K' hK' => ?_
        go_simp
        exact hK' _ _ (hK _ _ ⟨hs2, _, hl2, _, _, _, _, _, _, _, _, _, _, _, _, _, _, _, _, _, _, _, _, _, rfl, hB.s13 q18 q19 hw⟩)
      · obtain rfl := (Option.some.inj ho)
        have hno : L 14 = false := (hlk 14 (by decide)).symm.trans (getD_ft hsz (by decide) hl)
        obtain ⟨hs2, hl2⟩ := lnk hsz hlk (i := 14) (by decide)
        refine wpOp_step rfl fun K' hK' => ?_
        go_simp
        exact hK' _ _ (hK _ _ ⟨hs2, _, hl2, _, _, _, _, _, _, _, _, _, _, _, _, _, _, _, _, _, _, _, _, _, rfl, hB.s14 ⟩)
      · obtain rfl := (Option.some.inj ho)
        have hno : L 15 = false := (hlk 15 (by decide)).symm.trans (getD_ft hsz (by decide) hl)
        obtain ⟨hs2, hl2⟩ := lnk hsz hlk (i := 15) (by decide)
        have d14 : L 14 = true := (hlk 14 (by decide)).symm.trans (hdep ⟨14, .data⟩ (by simp) rfl)
        have ef14 := hB.f14 d14
        subst ef14
        refine wpOp_step rfl fun K' hK' => ?_
        go_simp
        exact hK' _ _ (hK _ _ ⟨hs2, _, hl2, _, _, _, _, _, _, _, _, _, _, _, _, _, _, _, _, _, _, _, _, _, rfl, hB.s15 ⟩)
      · obtain rfl := (Option.some.inj ho)
        have hno : L 16 = false := (hlk 16 (by decide)).symm.trans (getD_ft hsz (by decide) hl)
        obtain ⟨hs2, hl2⟩ := lnk hsz hlk (i := 16) (by decide)
        have d15 : L 15 = true := (hlk 15 (by decide)).symm.trans (hdep ⟨15, .data⟩ (by simp) rfl)
        have ef15 := hB.f15 d15
        subst ef15
        refine wpOp_step rfl fun K' hK' => ?_
        have hsl := HES.out
        subst hsl
        go_simp
        exact hK' _ _ (hK _ _ ⟨hs2, _, hl2, _, _, _, _, _, _, _, _, _, _, _, _, _, _, _, _, _, _, _, _, _, rfl, hB.s16 ⟩)
      · obtain rfl := (Option.some.inj ho)
        have hno : L 17 = false := (hlk 17 (by decide)).symm.trans (getD_ft hsz (by decide) hl)
        obtain ⟨hs2, hl2⟩ := lnk hsz hlk (i := 17) (by decide)
        have d16 : L 16 = true := (hlk 16 (by decide)).symm.trans (hdep ⟨16, .data⟩ (by simp) rfl)
        have ef16 := hB.f16 d16
        obtain ⟨q18, q19⟩ := hB.q18 (by simp [show L 17 = false from hno])
        subst ef16
        refine wpOp_step rfl fun K' hK' => ?_
        go_simp
        go_at_call 126
        refine (uRoom_any css.length W hN).mono ?_
        rintro e W2 ⟨u, fs, rfl, hq, bel2⟩
        exact hK' _ _ (hK _ _ ⟨hs2, _, hl2, _, _, _, _, _, _, _, _, _, _, _, _, _, _, _, _, _, _, _, _, _, rfl, hB.s17 q18 q19 bel2 (wq_base hq hw)⟩)
      · obtain rfl := (Option.some.inj ho)
        have hno : L 18 = false := (hlk 18 (by decide)).symm.trans (getD_ft hsz (by decide) hl)
        obtain ⟨hs2, hl2⟩ := lnk hsz hlk (i := 18) (by decide)
        have d1 : L 1 = true := (hlk 1 (by decide)).symm.trans (hdep ⟨1, .data⟩ (by simp) rfl)
        have d3 : L 3 = true := (hlk 3 (by decide)).symm.trans (hdep ⟨3, .data⟩ (by simp) rfl)
        have d7 : L 7 = true := (hlk 7 (by decide)).symm.trans (hdep ⟨7, .data⟩ (by simp) rfl)
        have d9 : L 9 = true := (hlk 9 (by decide)).symm.trans (hdep ⟨9, .data⟩ (by simp) rfl)
        have d13 : L 13 = true := (hlk 13 (by decide)).symm.trans (hdep ⟨13, .data⟩ (by simp) rfl)
        have d17 : L 17 = true := (hlk 17 (by decide)).symm.trans (hdep ⟨17, .data⟩ (by simp) rfl)
        have ef1 := hB.f1 d1
        subst ef1
        have hsl := HES.out
        subst hsl
        have ef3 := hB.f3 d3
        obtain ⟨g3, ef3, -⟩ := ef3
        subst ef3
        obtain ⟨g7, ef7, -⟩ := hB.f7 d7
        subst ef7
        obtain ⟨g9, ef9, -⟩ := hB.f9 d9
        subst ef9
        obtain ⟨g13, ef13, -⟩ := hB.f13 d13
        subst ef13
        obtain ⟨fs17, Ls17, -, hw17, -⟩ := hB.f17 d17
        obtain ⟨a17, c17, ef17⟩ := row_form' hw17.row
        clear hw17
        subst ef17
        refine wpOp_step rfl fun K' hK' => ?_
        go_simp
        exact hK' _ _ (hK _ _ ⟨hs2, _, hl2, _, _, _, _, _, _, _, _, _, _, _, _, _, _, _, _, _, _, _, _, _, rfl, hB.s18 ⟨d1, d3, d7, d9, d13, d17⟩⟩)
      · obtain rfl := (Option.some.inj ho)
        have hno : L 19 = false := (hlk 19 (by decide)).symm.trans (getD_ft hsz (by decide) hl)
        obtain ⟨hs2, hl2⟩ := lnk hsz hlk (i := 19) (by decide)
        have d18 : L 18 = true := (hlk 18 (by decide)).symm.trans (hdep ⟨18, .data⟩ (by simp) rfl)
        have ef18 := hB.f18 d18
        have q20 := hB.q20 hno
        obtain ⟨d1, d3, d7, d9, d13, d17⟩ := hB.c18 d18
        have ef1 := hB.f1 d1
        subst ef1
        have hsl := HES.out
        subst hsl
        have ef3 := hB.f3 d3
        obtain ⟨g3, ef3, -⟩ := ef3
        subst ef3
        obtain ⟨g7, ef7, -⟩ := hB.f7 d7
        subst ef7
        obtain ⟨g9, ef9, -⟩ := hB.f9 d9
        subst ef9
        obtain ⟨g13, ef13, -⟩ := hB.f13 d13
        subst ef13
        obtain ⟨fs17, Ls17, -, hw17, -⟩ := hB.f17 d17
        obtain ⟨a17, c17, ef17⟩ := row_form' hw17.row
        clear hw17
        subst ef17
        subst ef18
        refine wpOp_step rfl fun K' hK' => ?_
        go_simp
        exact hK' _ _ (hK _ _ ⟨hs2, _, hl2, _, _, _, _, _, _, _, _, _, _, _, _, _, _, _, _, _, _, _, _, _, rfl, hB.s19 d18 q20 hw⟩)
      · obtain rfl := (Option.some.inj ho)
        have hno : L 20 = false := (hlk 20 (by decide)).symm.trans (getD_ft hsz (by decide) hl)
        obtain ⟨hs2, hl2⟩ := lnk hsz hlk (i := 20) (by decide)
        have d19 : L 19 = true := (hlk 19 (by decide)).symm.trans (hdep ⟨19, .data⟩ (by simp) rfl)
        refine wpOp_step rfl fun K' hK' => ?_
        go_simp
        exact hK' _ _ (hK _ _ ⟨hs2, _, hl2, _, _, _, _, _, _, _, _, _, _, _, _, _, _, _, _, _, _, _, _, _, rfl, hB.s20 d19⟩)
    · intro listed a W hI hall
      obtain ⟨hsz, L, hlk, x4, x10, x11, x12, x13, x14, x15, x16, x17, x18, x19, x20, x21, x22, x23, x24, x25, x26, x27, x28, x29, rfl, hB⟩ := hI
      have HF := HCut.out L W x4 x10 x11 x12 x13 x14 x15 x16 x17 x18 x19 x20 x21 x22 x23 x24 x25 x26 x27 x28 x29 (fun j hj => (hlk j hj).symm.trans (hall j hj)) hB
      have HF : Hid (_) := HF
      clear hB hlk hall hsz
      go_wp2_with fail
      go_meet
      exact HF.out
  case rest =>
  obtain ⟨b, sz, rfl, hce, hsC, hb1⟩ := hcut
  have HCe : Hid (Ce w wc b sz n (ent css 0) (fun _ => false) ∧ sz.C = s) := ⟨by rw [ent_zero]; exact hce, hsC⟩
  have k2 : wc.cell? ⟨w.heap.size, 1, none⟩ = some s := (hb1.cell (p := ⟨w.heap.size, 1, none⟩) (World.block_lt_of_cell? w1 _ k1)).trans k1
  have HAT : Hid (∀ (W : World) (k : Nat), Below w.heap.size w W → k < css.length → ∃ bb off u, a = some ⟨bb, off, none⟩ ∧ W.cell? ⟨bb, off + k, none⟩ = some u ∧ Rd w u (css.getD k [])) := fun W k hW hk => by
    have h9 := HR.out
    rw [HES.out] at h9
    obtain ⟨a', c', e', -, -, hAT⟩ := h9.form
    injection e' with e' _ _
    subst e'
    obtain ⟨bb, off, u, e, hc, hrd⟩ := hAT k hk
    exact ⟨bb, off, u, e, (hW.cell (p := ⟨bb, off + k, none⟩) (World.block_lt_of_cell? w _ hc)).trans hc, hrd⟩
  have HLit : Hid (∀ c ∈ css, ∀ l ∈ c, fmd l = true ∧ idx l < (n : Int)) := fun c hc l hl => by
    have h1 := (grt_range css).2.2 c hc l hl
    have h2 := hf c hc l hl
    have h3 := idx_lt2 h2
    have h4 := HG.out
    have h5 := HN2.out
    exact ⟨h2, by omega⟩
  clear hce hsC hb1 k0 k1 HR1 HRd hf hGw
  generalize wc = w2 at *
  have hsl : s = .slice a css.length c := HES.out
  rw [hsl] at k2
  clear hsl
  go_wp2
  go_loopg [33] css.length (fun g j' wr => ∃ (j : Nat) (sz : Sz) (Q' : Nat → Bool), j + g = css.length ∧ j' = .int .i64 j ∧ Ce w wr b sz n (ent css j) Q' ∧ sz.C = s ∧ ∀ k, Q' k = true ↔ k < j ∧ cnt [] (css.getD k []) ≤ 1)
  case atStart => exact ⟨0, sz, _, by omega, rfl, HCe.out.1, HCe.out.2, fun k => by simp⟩
  case round =>
    obtain ⟨j, sz, Q', hj, rfl, hce, hsC, hQ⟩ := hrel
    have HJ : Hid (j + gk = css.length) := hj
    have HCe : Hid (Ce w wr b sz n (ent css j) Q' ∧ sz.C = s ∧ ∀ k, Q' k = true ↔ k < j ∧ cnt [] (css.getD k []) ≤ 1) := ⟨hce, hsC, hQ⟩
    clear hj hce hsC hQ
    by_cases hlt : j < css.length
    · obtain ⟨bb, off, u, rfl, kc, hrd⟩ := HAT.out wr j HCe.out.1.bel hlt
      have HRd : Hid (Rd w u (css.getD j [])) := hrd
      obtain ⟨au, cu, rfl, -, -, -⟩ := hrd.form
      have HLT : Hid (j < css.length) := hlt
      have HSet : Hid ((ent css j).set j (css.getD j []) = ent css (j + 1) ∧ j < (ent css j).length ∧ (ent css j).getD j [] = [] ∧ (∀ k, j < k → (ent css j).getD k [] = []) ∧ lsum (ent css j) + (css.getD j []).length ≤ 2147483647) := ⟨ent_set hlt, by rw [ent_len (by omega)]; exact hlt, ent_at hlt, fun k hk => ent_gt hk, Nat.le_trans (ent_sum hlt) HSz.out.2⟩
      have hqj : Q' j = false := by
        cases e : Q' j
        · rfl
        · have := ((HCe.out.2.2 j).1 e).1; omega
      have hwj : IntKind.i32.wrap (j : Int) = (j : Int) := by rw [wrap_i32']; omega
      have HLj : Hid ((∀ l ∈ css.getD j [], fmd l = true ∧ idx l < (n : Int)) ∧ (css.getD j []).length ≤ 1073741824) := ⟨HLit.out _ (getD_in hlt), HLs.out _ (getD_in hlt)⟩
      clear hrd
      generalize hcj : css.getD j [] = cj at *
      have HCj : Hid (css.getD j [] = cj) := hcj
      clear hcj
      have HEnt : Hid (Calls Tryz.prog 127 #[.pointer (some ⟨b, 0, none⟩), .int .i32 (j : Int), .slice au cj.length cu] wr fun e w' => e = .returned (.tuple #[]) ∧ ∃ u Q2, Ce w w' b { sz with P := u } n (ent css (j + 1)) Q2 ∧ ∀ k, Q2 k = true ↔ k < j + 1 ∧ cnt [] (css.getD k []) ≤ 1) :=
        (uEnter_any w b sz n (ent css j) Q' j (.slice au cj.length cu) cj wr HCe.out.1 HRd.out HSet.out.2.1 HSet.out.2.2.1 HSet.out.2.2.2.1 HLj.out.1 HLj.out.2 HSet.out.2.2.2.2 hqj).mono fun e w3 hh => by
          obtain ⟨he, u3, Q3, hen, hQ3⟩ := hh
          refine ⟨he, u3, Q3, by rw [← HSet.out.1]; exact hen.ce, fun k => ?_⟩
          rw [hQ3 k, HCe.out.2.2 k]
          constructor
          · rintro (⟨h1, h2⟩ | ⟨h1, h2⟩)
            · exact ⟨by omega, h2⟩
            · subst h1; exact ⟨by omega, by rw [HCj.out]; exact h2⟩
          · rintro ⟨h1, h2⟩
            by_cases e : k = j
            · subst e; exact .inr ⟨rfl, by rw [← HCj.out]; exact h2⟩
            · exact .inl ⟨by omega, h2⟩
      have HsC : Hid (sz.C = s) := HCe.out.2.1
      clear HCe HSet HRd HLj
      go_wp2_with fail
      refine HEnt.out.mono ?_
      rintro e w3 ⟨rfl, u3, Q3, hce3, hQ3⟩
      have HF : Hid (Ce w w3 b { sz with P := u3 } n (ent css (j + 1)) Q3 ∧ sz.C = s ∧ ∀ k, Q3 k = true ↔ k < j + 1 ∧ cnt [] (css.getD k []) ≤ 1) := ⟨hce3, HsC.out, hQ3⟩
      clear hce3 hQ3 kc
      go_wp2
      go_roundg (gk - 1)
      case measure => have := HJ.out; have := HLT.out; omega
      case rel => exact ⟨j + 1, { sz with P := u3 }, Q3, by have := HJ.out; have := HLT.out; omega, by go_num, HF.out⟩
    · have hje : j = css.length := by have := HJ.out; omega
      have HF : Hid (Cw w wr b sz (2 * (grt css).toNat) css [] Q' [] ∧ sz.C = s ∧ Inv css [] Q') := by
        have h1 := HCe.out
        rw [hje, ent_all] at h1
        obtain ⟨hce, hsC, hQ⟩ := h1
        have hn3 : 2 * (grt css).toNat = n := by rw [HG.out, HN2.out]; simp
        rw [hn3]
        obtain ⟨F, P, hz, hp, hP⟩ := hce.z
        refine ⟨⟨hce.bel, hce.fit, F, P, hz, hp, by have := HSz.out.2; omega⟩, hsC, fun k hk => ?_, fun k hk hc => .inl ((hQ k).2 ⟨hk, hc⟩)⟩
        exact (hQ k).1 hk
      go_wp2
      go_ret
      exact ⟨b, sz, Q', rfl, HF.out⟩
end Go.Proofs.YtjajafeaengnjaaGreatDoor
set_option linter.unusedSimpArgs false
set_option linter.unusedVariables false
namespace Go.Proofs.YtjajafeaengnjaaGreatDoor
open Go Go.RowKit

theorem szs_lsum {css : List (List Int)} (h : lsum css ≤ 2147483647) : szs css = (lsum css : Int) := by
  have key : ∀ (css : List (List Int)) (a : Nat), a + lsum css ≤ 2147483647 → css.foldl (fun a c => wrap64 (a + (c.length : Int))) (a : Int) = ((a + lsum css : Nat) : Int) := by
    intro css
    induction css with
    | nil => intro a _; simp [lsum]
    | cons c r ih =>
      intro a ha
      have e1 : lsum (c :: r) = c.length + lsum r := by simp [lsum]
      rw [List.foldl_cons]
      have e2 : wrap64 ((a : Int) + (c.length : Int)) = ((a + c.length : Nat) : Int) := by unfold wrap64; omega
      rw [e2, ih (a + c.length) (by omega), e1]
      congr 1
      omega
  have := key css 0 (by omega)
  simpa [szs] using this
theorem lsum_mem {css : List (List Int)} {c : List Int} (h : c ∈ css) : c.length ≤ lsum css := by
  induction css with
  | nil => simp at h
  | cons d r ih =>
    have e : lsum (d :: r) = d.length + lsum r := by simp [lsum]
    rcases List.mem_cons.1 h with a | a
    · subst a; omega
    · have := ih a; omega
/-- a formula that is not too great -/
structure Few (css : List (List Int)) : Prop where
  num : css.length ≤ 1073741824
  len : ∀ c ∈ css, c.length ≤ 1073741824
  sum : lsum css ≤ 2147483647
theorem Few.of {css : List (List Int)} (h1 : css.length ≤ 1073741824) (h2 : lsum css ≤ 1073741824) : Few css := by
  refine ⟨h1, fun c hc => ?_, by omega⟩
  have := lsum_mem hc
  omega
def whyE (v : Int) (css : List (List Int)) (facts : List Int) : Int := if frm v css && facts.all fmd then (if adj (tid facts) then 20 else 0) else 1
theorem frm_fmd {v : Int} {css : List (List Int)} (h : frm v css = true) : ∀ c ∈ css, ∀ l ∈ c, fmd l = true := by
  intro c hc l hl
  unfold frm at h
  rw [Bool.and_eq_true] at h
  have h2 := List.all_eq_true.1 h.2 c hc
  unfold fitsP at h2
  have h3 := List.all_eq_true.1 h2 l hl
  rw [Bool.and_eq_true] at h3
  exact h3.1
theorem adj_con {facts : List Int} (hf : facts.all fmd = true) : adj (tid facts) = false ↔ Con facts := by
  have hmem : ∀ x, x ∈ tid facts ↔ x ∈ facts := fun x => by rw [mem_tid]; exact ⟨fun h => h.1, fun h => ⟨h, List.all_eq_true.1 hf x h⟩⟩
  constructor
  · intro h l h1 h2
    have hfl : fmd l = true := List.all_eq_true.1 hf l h1
    -- the positive one and its opposite stand side by side
    have key : ∀ p : Int, 0 < p → p ∈ facts → -p ∈ facts → False := by
      intro p hp a b
      have hfp : fmd p = true := List.all_eq_true.1 hf p a
      obtain ⟨i, hi, ei⟩ := List.getElem_of_mem ((hmem p).2 a)
      obtain ⟨j, hj, ej⟩ := List.getElem_of_mem ((hmem (-p)).2 b)
      have ip : idx p = 2 * p - 2 := (there_pos hfp hp).1
      have jp : idx (-p) = 2 * p - 1 := by rw [(there_neg (fmd_neg hfp) (by omega)).1]; omega
      have hr := List.pairwise_iff_getElem.1 (tid_rising facts)
      have hij : j = i + 1 := by
        rcases Nat.lt_trichotomy i j with c | c | c
        · refine Classical.byContradiction fun hne => ?_
          have h3 := hr i (i + 1) hi (by omega) (by omega)
          have h4 := hr (i + 1) j (by omega) hj (by omega)
          rw [ei] at h3; rw [ej] at h4
          omega
        · subst c; rw [ei] at ej; omega
        · have h3 := hr j i hj hi c
          rw [ei, ej] at h3; omega
      subst hij
      have : adj (tid facts) = true := adj_true hj (by
        rw [List.getD_eq_getElem?_getD, List.getElem?_eq_getElem hj, List.getD_eq_getElem?_getD, List.getElem?_eq_getElem hi]
        show (tid facts)[i + 1] = -(tid facts)[i]
        rw [ei, ej])
      rw [h] at this; cases this
    have h0 := (fmd_range hfl).1
    rcases (show 0 < l ∨ l < 0 by omega) with c | c
    · exact key l c h1 h2
    · exact key (-l) (by omega) h2 (by rw [Int.neg_neg]; exact h1)
  · intro hc
    cases h : adj (tid facts)
    · rfl
    · exfalso
      obtain ⟨j, hj, e⟩ := (adj_iff _).1 h
      have m1 : (tid facts).getD j 0 ∈ facts := (hmem _).1 (getD_mem' (by omega))
      have m2 : (tid facts).getD (j + 1) 0 ∈ facts := (hmem _).1 (getD_mem' hj)
      rw [e] at m2
      exact hc _ m1 m2

/-- what Why answers -/
structure Wy (w w' : World) (v : Int) (css : List (List Int)) (facts : List Int) (u : Value) (cs : List (Int × Nat)) (e0 : Int) : Prop where
  row : w'.ownsRow w.heap.size 143 2 u cs.length (twc cs)
  yes : whyE v css facts = 0 → Clo css facts cs e0
  no : whyE v css facts ≠ 0 → u = .slice none 0 0 ∧ cs = [] ∧ e0 = 0
  bel : Below w.heap.size w w'
theorem Few.szs {css : List (List Int)} (h : Few css) : szs css = (lsum css : Int) := szs_lsum h.sum
set_option maxRecDepth 100000 in
set_option maxHeartbeats 3200000 in
theorem uWhy_any (v : Int) (s vf : Value) (css : List (List Int)) (facts : List Int) (w : World) (hr : Rds w s css) (hf : Rd w vf facts) (hw : Few css) (hD : Deb w) :
    Calls Tryz.prog 101 #[.agg #[.int .i64 v, s], vf] w fun e w' => ∃ u cs e0, e = .returned (.tuple #[u, .int .i64 e0, .int .i64 (whyE v css facts)]) ∧ Wy w w' v css facts u cs e0 := by
  have HR : Hid (Rds w s css ∧ Rd w vf facts ∧ Few css ∧ Deb w) := ⟨hr, hf, hw, hD⟩
  have hlen := hf.len
  obtain ⟨af, cf, rfl, hl1, hl2, hcf⟩ := hf.form
  have HCf : Hid (∀ (W : World) (j : Nat), Below w.heap.size w W → j < facts.length → ∃ bb off, af = some ⟨bb, off, none⟩ ∧ W.cell? ⟨bb, off + j, none⟩ = some (.int .i64 (facts.getD j 0))) := fun W j hW hj => by
    obtain ⟨bb, off, e, hc⟩ := hcf j hj
    exact ⟨bb, off, e, (hW.cell (p := ⟨bb, off + j, none⟩) (World.block_lt_of_cell? w _ hc)).trans hc⟩
  clear hr hf hw hD hcf
  have HNo : Hid (∀ w', Below w.heap.size w w' → ∀ x : Int, whyE v css facts = x → x ≠ 0 → ∃ u cs e0, Ending.returned (.tuple #[.slice none 0 0, .int .i64 0, .int .i64 x]) = .returned (.tuple #[u, .int .i64 e0, .int .i64 (whyE v css facts)]) ∧ Wy w w' v css facts u cs e0) := fun w' hb x hx hx0 => ⟨_, [], 0, by rw [hx], ⟨World.ownsRow_nil _ _ _ _, fun h => absurd (hx.symm.trans h) hx0, fun _ => ⟨rfl, rfl, rfl⟩, hb⟩⟩
  have HB1 : Hid (Below w.heap.size w (w.alloc (.cells #[.int .i64 v, s] 24))) := below_box _ _
  go_enter Tryz.func101, Tryz.ntmps101
  go_wp2_with fail
  refine (cnfFormed_any v s css _ (HR.out.1.below (below_box _ _))).mono ?_
  rintro e w1 ⟨rfl, bel1⟩
  have HB2 : Hid (Below w.heap.size w w1) := Below.step HB1.out bel1
  have k0 : w1.cell? ⟨w.heap.size, 0, none⟩ = some (.int .i64 v) := (bel1.cell (p := ⟨w.heap.size, 0, none⟩) (by rw [World.size_alloc]; exact Nat.lt_succ_self _)).trans (box0 w _ _ _)
  have k1 : w1.cell? ⟨w.heap.size, 1, none⟩ = some s := (bel1.cell (p := ⟨w.heap.size, 1, none⟩) (by rw [World.size_alloc]; exact Nat.lt_succ_self _)).trans (box1 w _ _ _)
  clear bel1
  cases hfm : frm v css
  · have HE : Hid (whyE v css facts = 1) := by show _ = _; unfold whyE; rw [hfm]; rfl
    go_wp2
    go_ret3
    exact HNo.out _ HB2.out 1 HE.out (by decide)
  · go_wp2_with fail
    refine (sound_any _ facts w1 (HR.out.2.1.below HB2.out)).mono ?_
    rintro e w2 ⟨rfl, hw2⟩
    obtain rfl : w1 = w2 := hw2.symm
    clear hw2
    cases hsd : facts.all fmd
    · have HE : Hid (whyE v css facts = 1) := by show _ = _; unfold whyE; rw [hfm, hsd]; rfl
      go_wp2
      go_ret3
      exact HNo.out _ HB2.out 1 HE.out (by decide)
    · go_wp2_with fail
      refine (taut_any _ facts w1 (HR.out.2.1.below HB2.out)).mono ?_
      rintro e w3 ⟨rfl, bel3⟩
      have k2 : w3.cell? ⟨w.heap.size, 0, none⟩ = some (.int .i64 v) := (bel3.cell (p := ⟨w.heap.size, 0, none⟩) (World.block_lt_of_cell? w1 _ k0)).trans k0
      have k3 : w3.cell? ⟨w.heap.size, 1, none⟩ = some s := (bel3.cell (p := ⟨w.heap.size, 1, none⟩) (World.block_lt_of_cell? w1 _ k1)).trans k1
      have HB3 : Hid (Below w.heap.size w w3) := Below.step HB2.out bel3
      clear bel3 k0 k1
      cases had : adj (tid facts)
      · have HE : Hid (whyE v css facts = 0) := by show _ = _; unfold whyE; rw [hfm, hsd, had]; rfl
        have HCon : Hid (Con facts) := (adj_con hsd).1 had
        have HAll : Hid (∀ l ∈ facts, fmd l = true) := fun l hl => List.all_eq_true.1 hsd l hl
        go_wp2_with fail
        refine (uBegin_any v s css w3 (HR.out.1.below HB3.out) HR.out.2.2.1.num HR.out.2.2.1.len HR.out.2.2.1.szs HR.out.2.2.1.sum (frm_fmd hfm)).mono ?_
        rintro e w4 ⟨b, sz, Q0, rfl, hcw, hsC, hinv⟩
        have HS0 : Hid (Cw w3 w4 b sz (2 * (grt css).toNat) css (facts.take 0) Q0 [] ∧ sz.C = s ∧ Inv css (facts.take 0) Q0) := ⟨hcw, hsC, hinv⟩
        clear hcw hsC hinv k2 k3 hfm hsd had
        go_wp2
        go_loopg [24] facts.length (fun g j' wr => ∃ (j : Nat) (Q' : Nat → Bool), j + g = facts.length ∧ j' = .int .i64 j ∧ Cw w3 wr b sz (2 * (grt css).toNat) css (facts.take j) Q' [] ∧ Inv css (facts.take j) Q')
        case atStart => exact ⟨0, Q0, by omega, rfl, HS0.out.1, HS0.out.2.2⟩
        case round =>
          obtain ⟨j, Q', hj, rfl, hcw, hinv⟩ := hrel
          have HJ : Hid (j + gk = facts.length) := hj
          have HCw : Hid (Cw w3 wr b sz (2 * (grt css).toNat) css (facts.take j) Q' [] ∧ Inv css (facts.take j) Q') := ⟨hcw, hinv⟩
          clear hj hcw hinv
          by_cases hlt : j < facts.length
          · obtain ⟨bb, off, rfl, kc⟩ := HCf.out wr j (HB3.out.trans (HCw.out.1.bel.mono HB3.out.size)) hlt
            have HT : Hid (facts.take (j + 1) = facts.take j ++ [facts.getD j 0]) := take_succ_getD facts 0 j hlt
            have HFl : Hid (fmd (facts.getD j 0) = true) := HAll.out _ (getD_mem' hlt)
            have HLT : Hid (j < facts.length) := hlt
            generalize facts.getD j 0 = l at *
            go_wp2_with fail
            refine (uPut_any w3 b sz _ css (facts.take j) Q' [] l wr HCw.out.1 HFl.out).mono ?_
            rintro e w5 ⟨rfl, Q5, hc5, hn5, hm5⟩
            have HF : Hid (Cw w3 w5 b sz (2 * (grt css).toNat) css (facts.take (j + 1)) Q5 [] ∧ Inv css (facts.take (j + 1)) Q5) := by rw [HT.out]; exact ⟨hc5, HCw.out.2.put hn5⟩
            clear hc5 hn5 hm5 kc
            go_wp2
            go_roundg (gk - 1)
            case measure => have := HJ.out; have := HLT.out; omega
            case rel => exact ⟨j + 1, Q5, by have := HJ.out; have := HLT.out; omega, by go_num, HF.out.1, HF.out.2⟩
          · have hje : j = facts.length := by have := HJ.out; omega
            rw [hje, List.take_length] at HCw
            clear hje
            go_wp2_with fail
            refine (uRun_any w3 b sz _ css facts Q' [] wr HCw.out.1 (by rw [HS0.out.2.1]; exact HR.out.1.below HB3.out) HCon.out HCw.out.2 (HR.out.2.2.2.below HB3.out) (by simp)).mono ?_
            rintro e w5 ⟨e0, cs, Q5, u5, rfl, hclo, hran, -⟩
            obtain ⟨F, P, hz, -⟩ := hran.cw.z
            have b6 : w5.cell? ⟨b, 6, none⟩ = some u5 := hz.c6
            have HF : Hid (Wy w w5 v css facts u5 cs e0) := ⟨row_mono (by simpa using hz.c) HB3.out.size, fun _ => hclo, fun h => absurd HE.out h, HB3.out.trans (hran.cw.bel.mono HB3.out.size)⟩
            obtain ⟨a5, c5, e5⟩ := row_form' HF.out.row
            subst e5
            clear hz hran hclo
            go_wp2
            go_ret3
            exact ⟨_, cs, e0, by rw [HE.out]; rfl, HF.out⟩
      · have HE : Hid (whyE v css facts = 20) := by show _ = _; unfold whyE; rw [hfm, hsd, had]; rfl
        go_wp2
        go_ret3
        exact HNo.out _ HB3.out 20 HE.out (by decide)
end Go.Proofs.YtjajafeaengnjaaGreatDoor
set_option linter.unusedSimpArgs false
set_option linter.unusedVariables false
namespace Go.Proofs.YtjajafeaengnjaaGreatDoor
open Go Go.RowKit

theorem red_len (K c : List Int) : (red K c).length ≤ c.length := by
  unfold red
  split
  · simp
  · exact List.length_filter_le _ _
theorem lsum_reds (K : List Int) : ∀ l : List (List Int), lsum (reds K l) ≤ lsum l
  | [] => Nat.le_refl _
  | c :: r => by
    have h1 := lsum_reds K r
    have h2 := red_len K c
    have e1 : lsum (reds K (c :: r)) = (red K c).length + lsum (reds K r) := by simp [lsum, reds]
    have e2 : lsum (c :: r) = c.length + lsum r := by simp [lsum]
    omega
theorem ent_reds_sum {K : List Int} {css : List (List Int)} {j : Nat} (h : j < css.length) : lsum (ent (reds K css) j) + (css.getD j []).length ≤ lsum css := by
  have h1 := ent_sum h
  have h2 : lsum (ent (reds K css) j) ≤ lsum (ent css j) := by
    have e : ent (reds K css) j = reds K (css.take j) ++ List.replicate (css.length - j) [] := by unfold ent reds; rw [List.map_take, List.length_map]
    rw [e]
    unfold ent
    rw [lsum_append, lsum_append]
    have := lsum_reds K (css.take j)
    omega
  omega
theorem flt_red {K c : List Int} (h : anyK K c = false) : flt K c = red K c := by
  unfold red
  rw [if_neg (by unfold anyK at h; rw [h]; decide)]
  rfl
theorem red_any {K c : List Int} (h : anyK K c = true) : red K c = [] := by
  unfold red
  unfold anyK at h
  rw [if_pos h]
theorem ent_next {X : List (List Int)} {j : Nat} (h : j < X.length) (h0 : X.getD j [] = []) : ent X j = ent X (j + 1) := by
  rw [← ent_set h, h0]
  apply List.ext_getElem?
  intro i
  by_cases e : j = i
  · subst e
    have h2 := ent_at h
    have hl : j < (ent X j).length := by rw [ent_len (by omega)]; exact h
    rw [List.getElem?_set_self hl, List.getElem?_eq_getElem hl]
    rw [List.getD_eq_getElem?_getD, List.getElem?_eq_getElem hl] at h2
    simpa using h2
  · rw [List.getElem?_set_ne e]
theorem Ov.setI {w0 W : World} {b : Nat} {s : Sy} {n : Nat} {K : List Int} {X : List (List Int)} (h : Ov w0 W b s n K X) {l : Int} {i g cap : Nat} (hf : fmd l = true) (hi : idx l = i) (hin : i < n) (hv : s.I = .slice (some ⟨g, 0, none⟩) n cap) : Ov w0 (W.setCell ⟨g, i, none⟩ (.bool true)) b s n (K ++ [l]) X := by
  obtain ⟨F, P, hz, hp⟩ := h.z
  obtain ⟨z1, m1⟩ := hz.setI hv hin true
  rw [inLs_set (L' := K ++ [l]) h.fit.hn hf hi true (by simp) (fun x hx => by simp [hx])] at z1
  exact ⟨Mo.bel h.bel (fun k hk => (hz.lt k hk).1) m1, h.fit, F, P, z1, hp⟩
theorem Ov.skipI {w0 W : World} {b : Nat} {s : Sy} {n : Nat} {K : List Int} {X : List (List Int)} (h : Ov w0 W b s n K X) {l : Int} (hin : ¬ idx l < n) : Ov w0 W b s n (K ++ [l]) X := by
  obtain ⟨F, P, hz, hp⟩ := h.z
  rw [inLs_congr (L' := K ++ [l]) h.fit.hn (fun x _ hx => ⟨fun h2 => List.mem_append.2 (.inl h2), fun h2 => (List.mem_append.1 h2).elim id fun h3 => by
    have e : x = l := by simpa using h3
    subst e; exact absurd hx hin⟩)] at hz
  exact ⟨h.bel, h.fit, F, P, hz, hp⟩
theorem grt_fit {css : List (List Int)} (hf : ∀ c ∈ css, ∀ l ∈ c, fmd l = true) {n : Nat} (hn : n = 2 * (grt css).toNat) : ∀ c ∈ css, ∀ l ∈ c, fmd l = true ∧ idx l < n := fun c hc l hl => by
  have h1 := hf c hc l hl
  have h2 := idx_lt2 h1
  have h3 := (grt_range css).2.2 c hc l hl
  have h4 := (grt_range css).1
  exact ⟨h1, by omega⟩
set_option maxRecDepth 100000 in
set_option maxHeartbeats 3200000 in
theorem oLead_any (v : Int) (s vk : Value) (css : List (List Int)) (K : List Int) (w : World) (hr : Rds w s css) (hk : Rd w vk K) (hw : Few css) (hf : ∀ c ∈ css, ∀ l ∈ c, fmd l = true) (hKf : ∀ x ∈ K, fmd x = true) :
    Calls Tryz.prog 104 #[.agg #[.int .i64 v, s], vk] w fun e w' => ∃ b sy, e = .returned (.pointer (some ⟨b, 0, none⟩)) ∧ Ow w w' b sy (2 * (grt css).toNat) css K [] [] ∧ sy.C = s := by
  have HR : Hid (Rds w s css ∧ Rd w vk K ∧ Few css ∧ (∀ c ∈ css, ∀ l ∈ c, fmd l = true) ∧ ∀ x ∈ K, fmd x = true) := ⟨hr, hk, hw, hf, hKf⟩
  obtain ⟨a, c, es, h1, h2, -⟩ := hr.form
  have hg := grt_range css
  obtain ⟨G, hG⟩ : ∃ G : Nat, grt css = (G : Int) := ⟨(grt css).toNat, by omega⟩
  have hGb : G ≤ 1048576 := by omega
  have HG : Hid (grt css = (G : Int)) := hG
  have HES : Hid (s = .slice a css.length c) := es
  have hN := hw.num
  have hKl := hk.len
  clear hr hk hw hf hKf hg hG es
  go_enter Tryz.func104, Tryz.ntmps104
  go_wp2_with fail
  refine (oGreatest_any v s css _ (HR.out.1.below (below_box _ _)) hN HR.out.2.2.1.len).mono ?_
  rintro e w1 ⟨rfl, bel1⟩
  rw [HG.out]
  have HB1 : Hid (Below w.heap.size w w1) := Below.step (below_box _ _) bel1
  have k0 : w1.cell? ⟨w.heap.size, 0, none⟩ = some (.int .i64 v) := (bel1.cell (p := ⟨w.heap.size, 0, none⟩) (by rw [World.size_alloc]; exact Nat.lt_succ_self _)).trans (box0 w _ _ _)
  have k1 : w1.cell? ⟨w.heap.size, 1, none⟩ = some s := (bel1.cell (p := ⟨w.heap.size, 1, none⟩) (by rw [World.size_alloc]; exact Nat.lt_succ_self _)).trans (box1 w _ _ _)
  have HBx0 : Hid (w1.heap[w.heap.size]? = some (.cells #[.int .i64 v, s] 24 (0, 0))) := (bel1.block _ (by rw [World.size_alloc]; exact Nat.lt_succ_self _)).trans (World.alloc_heap_new w _)
  clear bel1
  obtain ⟨n, hn2⟩ : ∃ n : Nat, 2 * (G : Int) = (n : Int) := ⟨2 * G, by omega⟩
  have hn : n ≤ 2097152 := by omega
  have HN2 : Hid (n = 2 * G) := by show _ = _; omega
  have hev : n % 2 = 0 := by omega
  have hGw : IntKind.i64.wrap (2 * (G : Int)) = (n : Int) := by rw [IntKind.wrap_i64]; omega
  have HBx1 : Hid (w1.heap[w.heap.size]? = some (.cells #[.int .i64 v, s] 24 (0, 0))) := HBx0.out
  go_upto_region 2 with fail
  refine lead_region _ w w1 v s a css.length c n w.heap.size _ _ _ _ _ _ _ _ _ _ _ _ _ _ _ _ _ _ _ _ _ _ _ _ _ _ _ _ _ _ _ _ _ _ _ _ _ _ _ _ _ _ _ _ _ _ _ _ _ _ _ _ _ _ _ _ _ _ _ _ _ _ HES HB1.out hN hn hev k1 ?_
  intro W x6 x15 x16 x17 x18 x19 x20 x21 x22 x23 x24 x25 x26 x27 b sy e6 hov hC hbel
  subst e6
  have HO : Hid (Ov w W b sy n [] (List.replicate css.length []) ∧ sy.C = s ∧ W.heap[w.heap.size]? = some (.cells #[.int .i64 v, s] 24 (0, 0))) := ⟨hov, hC, (hbel.block _ (Array.getElem?_eq_some_iff.1 HBx1.out).1).trans HBx1.out⟩
  obtain ⟨ak, ck, ek, hk1, hk2, hkc⟩ := HR.out.2.1.form
  have HC : Hid (∀ (W : World) (j : Nat), Below w.heap.size w W → j < K.length → ∃ bb off, ak = some ⟨bb, off, none⟩ ∧ W.cell? ⟨bb, off + j, none⟩ = some (.int .i64 (K.getD j 0))) := fun W j hW hj => by
    obtain ⟨bb, off, e, hc⟩ := hkc j hj
    exact ⟨bb, off, e, (hW.cell (p := ⟨bb, off + j, none⟩) (World.block_lt_of_cell? w _ hc)).trans hc⟩
  clear hov hC hbel hkc k0 k1
  subst ek
  generalize W = w2 at *
  go_wp2
  go_loopg [30] K.length (fun g j' wr => ∃ j : Nat, j + g = K.length ∧ j' = .int .i64 j ∧ Ov w wr b sy n (K.take j) (List.replicate css.length []) ∧ wr.heap[w.heap.size]? = some (.cells #[.int .i64 v, s] 24 (0, 0)))
  case atStart => exact ⟨0, by omega, rfl, by simpa using HO.out.1, HO.out.2.2⟩
  case round =>
    obtain ⟨j, hj, rfl, hov, hbx⟩ := hrel
    have HJ : Hid (j + gk = K.length) := hj
    have HV : Hid (Ov w wr b sy n (K.take j) (List.replicate css.length []) ∧ wr.heap[w.heap.size]? = some (.cells #[.int .i64 v, s] 24 (0, 0))) := ⟨hov, hbx⟩
    clear hj hov hbx
    by_cases hlt : j < K.length
    · obtain ⟨bb, off, rfl, c1⟩ := HC.out wr j HV.out.1.bel hlt
      have hlf := HR.out.2.2.2.2 _ (getD_mem' (d := 0) hlt)
      have HTk : Hid (K.take (j + 1) = K.take j ++ [K.getD j 0]) := take_succ_getD K 0 j hlt
      have HLT : Hid (j < K.length) := hlt
      generalize K.getD j 0 = l at *
      obtain ⟨i, hi⟩ : ∃ i : Nat, idx l = i := ⟨(idx l).toNat, by have := idx_range hlf; omega⟩
      have hib : i < 2097152 := by have := idx_range hlf; omega
      have HI : Hid (idx l = i) := hi
      by_cases hin : i < n
      · obtain ⟨F, P, hz, -⟩ := HV.out.1.z
        obtain ⟨gI, cI, eI, i1, i2, i3⟩ := row_some hz.i (by omega)
        have b1 := hz.c1
        have rI := hz.i
        rw [eI] at b1 rI
        have kI := row_cell rI (j := i) (x := .bool (decide (l ∈ K.take j))) (by rw [List.getElem?_map, inLs_at hlf hi hin]; rfl)
        have zI := row_fz rI i
        have HF : Hid (Ov w (wr.setCell ⟨gI, i, none⟩ (.bool true)) b sy n (K.take (j + 1)) (List.replicate css.length []) ∧ (wr.setCell ⟨gI, i, none⟩ (.bool true)).heap[w.heap.size]? = some (.cells #[.int .i64 v, s] 24 (0, 0))) := ⟨by rw [HTk.out]; exact HV.out.1.setI hlf hi hin eI, box_other (e := 4) HV.out.2 (grown_set wr ⟨gI, i, none⟩ (.bool true)) (fun x e => row_ty rI (by rw [← e]; rfl)) (by decide)⟩
        clear hz rI eI hi
        generalize decide (l ∈ K.take j) = dl at *
        go_wp2_with fail
        refine (index_any _ _).mono ?_
        rintro e w9 ⟨rfl, hw9⟩
        obtain rfl : wr = w9 := hw9.symm
        rw [HI.out]
        clear hw9
        go_wp2
        go_roundg (gk - 1)
        case measure => have := HJ.out; have := HLT.out; omega
        case rel => exact ⟨j + 1, by have := HJ.out; have := HLT.out; omega, by go_num, HF.out.1, HF.out.2⟩
      · have HF : Hid (Ov w wr b sy n (K.take (j + 1)) (List.replicate css.length [])) := by rw [HTk.out]; exact HV.out.1.skipI (by omega)
        clear hi
        go_wp2_with fail
        refine (index_any _ _).mono ?_
        rintro e w9 ⟨rfl, hw9⟩
        obtain rfl : wr = w9 := hw9.symm
        rw [HI.out]
        clear hw9
        go_wp2
        go_roundg (gk - 1)
        case measure => have := HJ.out; have := HLT.out; omega
        case rel => exact ⟨j + 1, by have := HJ.out; have := HLT.out; omega, by go_num, HF.out, HV.out.2⟩
    · have hje : j = K.length := by have := HJ.out; omega
      have HV2 : Hid (Ov w wr b sy n K (ent (reds K css) 0)) := by
        have := HV.out.1
        rw [hje, List.take_length] at this
        rw [ent_zero, reds_len]
        exact this
      have q1 : wr.cell? ⟨w.heap.size, 1, none⟩ = some s := by simp [World.cell?, HV.out.2]
      rw [HES.out] at q1
      have HsC : Hid (sy.C = s) := HO.out.2.1
      clear hje HV HO
      generalize wr = w3 at *
      obtain ⟨-, -, es2, -, -, hAT⟩ := HR.out.1.form
      have HLit : Hid (∀ c ∈ css, ∀ l ∈ c, fmd l = true ∧ idx l < n) := grt_fit HR.out.2.2.2.1 (by rw [HG.out]; have := HN2.out; omega)
      go_wp2
      go_loopg [49] css.length (fun g j' wr => ∃ (j : Nat) (u : Value), j + g = css.length ∧ j' = .int .i64 j ∧ Ov w wr b { sy with P := u } n K (ent (reds K css) j))
      case atStart => exact ⟨0, sy.P, by omega, rfl, HV2.out⟩
      case round =>
        obtain ⟨j, u, hj, rfl, hov⟩ := hrel
        have HJ : Hid (j + gk = css.length) := hj
        have HV : Hid (Ov w wr b { sy with P := u } n K (ent (reds K css) j)) := hov
        clear hj hov
        by_cases hlt : j < css.length
        · have hrw := HR.out.1.below HV.out.bel
          obtain ⟨a4, c4, e4, -, -, hat4⟩ := hrw.form
          obtain ⟨b4, o4, ux, ea4, kc4, hrd4⟩ := hat4 j hlt
          have hrd0 : Rd w ux (css.getD j []) := by
            obtain ⟨a5, c5, e5, -, -, hat5⟩ := HR.out.1.form
            obtain ⟨b5, o5, ux5, ea5, kc5, hrd5⟩ := hat5 j hlt
            rw [HES.out] at e4 e5
            injection e4 with e41 e42 e43
            injection e5 with e51 e52 e53
            rw [← e41, e51, ea5] at ea4
            injection ea4 with ea4
            injection ea4 with ea6 ea7
            subst ea6; subst ea7
            have := (HV.out.bel.cell (p := ⟨b5, o5 + j, none⟩) (World.block_lt_of_cell? w _ kc5)).trans kc5
            rw [kc4] at this
            injection this with this
            rw [this]; exact hrd5
          rw [HES.out] at e4
          injection e4 with e41 e42 e43
          subst e41; subst e43; subst ea4
          clear e42
          have hjr : j < (reds K css).length := by rw [reds_len]; exact hlt
          have hjX : j < (ent (reds K css) j).length := by rw [ent_len (by omega)]; exact hjr
          have hlits := HLit.out _ (getD_in hlt)
          have hlen := HR.out.2.2.1.len _ (getD_in hlt)
          have HEnt : Hid (anyK K (css.getD j []) = false → ∀ W, Below wr.heap.size wr W → Calls Tryz.prog 118 #[.pointer (some ⟨b, 0, none⟩), .int .i32 (j : Int), ux] W fun e w' => e = .returned (.tuple #[]) ∧ ∃ u2, Ov w w' b { sy with P := u2 } n K (ent (reds K css) (j + 1))) := fun hno W hW => (oEnter_any w b { sy with P := u } n K (ent (reds K css) j) j ux (css.getD j []) W (HV.out.below hW) hrd0 hjX (ent_at hjr) (fun k hk => ent_gt hk) hlits hlen (Nat.le_trans (ent_reds_sum hlt) HR.out.2.2.1.sum)).mono fun e w' hh => by
            obtain ⟨he, u2, hen⟩ := hh
            refine ⟨he, u2, ?_⟩
            rw [← ent_set hjr, reds_at K css j hlt, ← flt_red hno]
            exact hen.ce
          have HSk : Hid (anyK K (css.getD j []) = true → ent (reds K css) j = ent (reds K css) (j + 1)) := fun hy => ent_next hjr (by rw [reds_at K css j hlt]; exact red_any hy)
          obtain ⟨F, P, hz, -⟩ := HV.out.z
          have HAn : Hid (Calls Tryz.prog 117 #[.pointer (some ⟨b, 0, none⟩), ux] wr fun e w' => e = .returned (.bool (anyK K (css.getD j []))) ∧ Below wr.heap.size wr w') := oAny_z _ b _ n _ K _ F P [] [] ux (css.getD j []) wr hz hn hrd4 hlits hlen
          obtain ⟨au, cu, eu, -⟩ := hrd4.form
          subst eu
          have hjw : IntKind.i32.wrap (j : Int) = (j : Int) := by rw [wrap_i32']; omega
          have HLT : Hid (j < css.length) := hlt
          clear hz hrd4 hrd0 hlits hlen hjX hjr hat4 hrw
          generalize css.getD j [] = cj at *
          go_wp2_with fail
          refine HAn.out.mono ?_
          rintro e w4 ⟨rfl, bel4⟩
          have HB4 : Hid (Below wr.heap.size wr w4) := bel4
          clear bel4 HAn kc4
          cases hy : anyK K cj
          · have HE2 := HEnt.out hy w4 HB4.out
            have HE2 : Hid (Calls Tryz.prog 118 #[.pointer (some ⟨b, 0, none⟩), .int .i32 (j : Int), .slice au cj.length cu] w4 fun e w' => e = .returned (.tuple #[]) ∧ ∃ u2, Ov w w' b { sy with P := u2 } n K (ent (reds K css) (j + 1))) := HE2
            clear HEnt hy
            go_wp2_with fail
            refine HE2.out.mono ?_
            rintro e w5 ⟨rfl, u2, hov⟩
            have HF : Hid (Ov w w5 b { sy with P := u2 } n K (ent (reds K css) (j + 1))) := hov
            clear hov HE2
            go_wp2
            go_roundg (gk - 1)
            case measure => have := HJ.out; have := HLT.out; omega
            case rel => exact ⟨j + 1, u2, by have := HJ.out; have := HLT.out; omega, by go_num, HF.out⟩
          · have HF : Hid (Ov w w4 b { sy with P := u } n K (ent (reds K css) (j + 1))) := by rw [← HSk.out hy]; exact HV.out.below HB4.out
            clear HEnt hy
            go_wp2
            go_roundg (gk - 1)
            case measure => have := HJ.out; have := HLT.out; omega
            case rel => exact ⟨j + 1, u, by have := HJ.out; have := HLT.out; omega, by go_num, HF.out⟩
        · have hje : j = css.length := by have := HJ.out; omega
          have HFin : Hid (Ow w wr b { sy with P := u } (2 * (grt css).toNat) css K [] []) := by
            have h5 := HV.out
            rw [hje] at h5
            have e5 : ent (reds K css) css.length = reds K css := by have := ent_all (reds K css); rw [reds_len] at this; exact this
            rw [e5] at h5
            obtain ⟨F, P, hz, hp, hP⟩ := h5.z
            have e6 : 2 * (grt css).toNat = n := by rw [HG.out]; have := HN2.out; omega
            rw [e6]
            refine ⟨h5.bel, ⟨hn, hev, hN, HR.out.2.2.1.len, HLit.out⟩, List.nodup_nil, by simp, F, P, by rw [List.append_nil, ← reds_len K css]; exact hz, hp, ?_⟩
            have h7 := lsum_reds K css
            have h8 := HR.out.2.2.1.sum
            omega
          clear hje
          go_wp2
          go_ret
          exact ⟨b, { sy with P := u }, rfl, HFin.out, HsC.out⟩
end Go.Proofs.YtjajafeaengnjaaGreatDoor
set_option linter.unusedSimpArgs false
set_option linter.unusedVariables false
namespace Go.Proofs.YtjajafeaengnjaaGreatDoor
open Go Go.RowKit

def ledL (cs : List (Int × Nat)) (j : Nat) : List Int := (cs.take j).map Prod.fst ++ List.replicate (cs.length - j) 0
theorem ledL_len {cs : List (Int × Nat)} {j : Nat} (h : j ≤ cs.length) : (ledL cs j).length = cs.length := by simp [ledL]; omega
theorem ledL_all (cs : List (Int × Nat)) : ledL cs cs.length = cs.map Prod.fst := by simp [ledL]
theorem ledL_set {cs : List (Int × Nat)} {j : Nat} (h : j < cs.length) : (ledL cs j).set j (cs[j]).1 = ledL cs (j + 1) := by
  apply List.ext_getElem?
  intro i
  by_cases e : j = i
  · subst e
    rw [List.getElem?_set_self (by rw [ledL_len (by omega)]; exact h)]
    unfold ledL
    rw [List.getElem?_append_left (by simp; omega), List.getElem?_map, List.getElem?_take_of_lt (by omega), List.getElem?_eq_getElem h]; rfl
  · rw [List.getElem?_set_ne e]
    unfold ledL
    by_cases hi : i < j
    · rw [List.getElem?_append_left (by simp; omega), List.getElem?_append_left (by simp; omega), List.getElem?_map, List.getElem?_map, List.getElem?_take_of_lt hi, List.getElem?_take_of_lt (by omega)]
    · rw [List.getElem?_append_right (by simp; omega), List.getElem?_append_right (by simp; omega), List.getElem?_replicate, List.getElem?_replicate]
      simp only [List.length_map, List.length_take]
      by_cases h3 : i < cs.length
      · rw [if_pos (by omega), if_pos (by omega)]
      · rw [if_neg (by omega), if_neg (by omega)]
set_option maxRecDepth 100000 in
set_option maxHeartbeats 3200000 in
theorem uClosure_any (vf u : Value) (facts : List Int) (cs : List (Int × Nat)) (w : World) (hf : Rd w vf facts) (hr : w.ownsRow 0 143 2 u cs.length (twc cs)) (hn : cs.length ≤ 2097152) :
    Calls Tryz.prog 102 #[vf, u] w fun e w' => ∃ v', e = .returned v' ∧ Own w.heap.size w' v' (tid (facts ++ cs.map Prod.fst)) ∧ Below w.heap.size w w' := by
  have HF : Hid (Rd w vf facts) := hf
  have HR : Hid (w.ownsRow 0 143 2 u cs.length (twc cs)) := hr
  obtain ⟨au, cu, eu⟩ := row_form' hr
  have hmk := run_make_row' (P := Tryz.prog) 25 3 (.int .i64 0) 8 Tryz.underlying25 Tryz.info3 rfl .i64 .i64 cs.length (by omega) (by omega)
  have HAt : Hid (∀ (W : World) (j : Nat) (hj : j < cs.length), Below w.heap.size w W → ∃ g, au = some ⟨g, 0, none⟩ ∧ cs.length ≤ cu ∧ W.cell? ⟨g, j * 2, none⟩ = some (.int .i64 (cs[j]).1) ∧ W.cell? ⟨g, j * 2 + 1, none⟩ = some (.int .i64 ((cs[j]).2 : Int))) := fun W j hj hW => by
    have h1 := HR.out
    obtain ⟨g, c, e, h2, h3, h4⟩ := row_some h1 (by omega)
    rw [eu] at e
    injection e with e1 _ e3
    subst e1; subst e3
    rw [eu] at h1
    have hg : cs[j]? = some ((cs[j]).1, (cs[j]).2) := List.getElem?_eq_getElem hj
    obtain ⟨k1, k2⟩ := twc_at hg
    have c1 := row_cell h1 k1
    have c2 := row_cell h1 k2
    exact ⟨g, rfl, h2, (hW.cell (p := ⟨g, j * 2, none⟩) h4).trans c1, (hW.cell (p := ⟨g, j * 2 + 1, none⟩) h4).trans c2⟩
  have HL0 : Hid (Own w.heap.size (w.alloc (.cells (madeCells #[.int .i64 0] cs.length) 3)) (.slice (some ⟨w.heap.size, 0, none⟩) cs.length cs.length) (ledL cs 0)) := by
    refine ⟨by simp [ledL], .inr ⟨w.heap.size, cs.length, _, ?_, Nat.le_refl _, World.alloc_heap_new w _, by simp [ledL], by unfold maxLen; omega, by rw [made_zero6]; simp, ?_⟩⟩
    · simp [ledL]
    · rw [made_zero6]; simp [ledL]
  have HB0 : Hid (Below w.heap.size w (w.alloc (.cells (madeCells #[.int .i64 0] cs.length) 3))) := below_box _ _
  clear hf hr
  subst eu
  go_enter Tryz.func102, Tryz.ntmps102
  go_wp2
  go_loopg [13] cs.length (fun g j' wr => ∃ (j : Nat), j + g = cs.length ∧ j' = .int .i64 j ∧ Own w.heap.size wr (.slice (some ⟨w.heap.size, 0, none⟩) cs.length cs.length) (ledL cs j) ∧ Below w.heap.size w wr)
  case atStart => exact ⟨0, by omega, rfl, HL0.out, HB0.out⟩
  case round =>
    obtain ⟨j, hj, rfl, ho, hb⟩ := hrel
    have HJ : Hid (j + gk = cs.length) := hj
    have HO : Hid (Own w.heap.size wr (.slice (some ⟨w.heap.size, 0, none⟩) cs.length cs.length) (ledL cs j) ∧ Below w.heap.size w wr) := ⟨ho, hb⟩
    clear hj ho hb
    by_cases hlt : j < cs.length
    · obtain ⟨g, rfl, g1, c1, c2⟩ := HAt.out wr j hlt HO.out.2
      have HSet : Hid ((ledL cs j).set j (cs[j]).1 = ledL cs (j + 1)) := ledL_set hlt
      have HStep : Hid (∀ W l, Below wr.heap.size wr W → (ledL cs j).set j l = ledL cs (j + 1) → Own w.heap.size (W.setCell ⟨w.heap.size, j, none⟩ (.int .i64 l)) (.slice (some ⟨w.heap.size, 0, none⟩) cs.length cs.length) (ledL cs (j + 1)) ∧ Below w.heap.size w (W.setCell ⟨w.heap.size, j, none⟩ (.int .i64 l)) ∧ W.frozen? ⟨w.heap.size, j, none⟩ = false ∧ ∃ z, W.cell? ⟨w.heap.size, j, none⟩ = some (.int .i64 z)) := fun W l hW hs => by
        have h1 := HO.out.1.below hW
        have h1' : W.ownsRow w.heap.size 3 1 (.slice (some ⟨w.heap.size, 0, none⟩) cs.length cs.length) cs.length ((ledL cs j).map (Value.int .i64)) := by
          have := h1; unfold Own at this; rw [ledL_len (by omega)] at this; exact this
        have h2 := own_cell h1' (k := j) (by omega) (.int .i64 l)
        refine ⟨?_, HO.out.2.trans (hW.mono HO.out.2.size) |> fun hb => hb.grown (grown_set W _ _) hb.size (fun k e => by simp at e; omega), row_fz h1' j, ?_⟩
        · unfold Own
          rw [ledL_len (by omega), ← hs, List.map_set]
          exact h2
        · obtain ⟨z, hz⟩ : ∃ z, (ledL cs j)[j]? = some z := ⟨_, List.getElem?_eq_getElem (by rw [ledL_len (by omega)]; exact hlt)⟩
          exact ⟨z, row_cell h1' (by rw [List.getElem?_map, hz]; rfl)⟩
      have HLT : Hid (j < cs.length) := hlt
      generalize (cs[j]).1 = l at *
      generalize ((cs[j]).2 : Int) = l2 at *
      obtain ⟨hO1, hB1, hz1, z, hc1⟩ := HStep.out (wr.alloc (.cells #[.int .i64 l, .int .i64 l2] 143)) l (below_box _ _) HSet.out
      have HFin : Hid (_ ∧ _) := ⟨hO1, hB1⟩
      clear hO1 hB1 HStep HSet
      go_wp2
      go_roundg (gk - 1)
      case measure => have := HJ.out; have := HLT.out; omega
      case rel => exact ⟨j + 1, by have := HJ.out; have := HLT.out; omega, by go_num, HFin.out.1, HFin.out.2⟩
    · have hje : j = cs.length := by have := HJ.out; omega
      rw [hje, ledL_all] at HO
      clear hje
      have HRd : Hid (Rd wr (.slice (some ⟨w.heap.size, 0, none⟩) cs.length cs.length) (cs.map Prod.fst)) := HO.out.1.rd (by simp; omega)
      go_wp2_with fail
      refine (join_any sortSaid compactSaid _ _ facts (cs.map Prod.fst) wr (HF.out.below HO.out.2) HRd.out).mono ?_
      rintro e w5 ⟨v5, rfl, own5, bel5⟩
      have HFin : Hid (_ ∧ _) := ⟨own5.mono HO.out.2.size, Below.step HO.out.2 bel5⟩
      obtain ⟨a5, c5, e5⟩ := own_form own5
      subst e5
      clear own5 bel5
      go_wp2
      go_ret
      exact ⟨_, rfl, HFin.out.1, HFin.out.2⟩

def cloE (v : Int) (css : List (List Int)) (facts : List Int) : Int := if frm v css && facts.all fmd then 0 else 1
theorem frm_nz {v : Int} {css : List (List Int)} (h : frm v css = true) : Nz css := fun c hc l hl => (fmd_range (frm_fmd h c hc l hl)).1
theorem Clo.few {css : List (List Int)} {L : List Int} {cs : List (Int × Nat)} {e : Int} (h : Clo css L cs e) (hf : ∀ c ∈ css, ∀ l ∈ c, fmd l = true) : cs.length ≤ 2097152 := by
  obtain ⟨h1, h2, h3⟩ := h.1.new
  have := lits_few h1 fun x hx => by obtain ⟨c, hc, hxc⟩ := h3 x hx; exact hf c hc x hxc
  simpa using this
/-- what Close answers -/
structure Clz (w w' : World) (v : Int) (css : List (List Int)) (facts : List Int) (u : Value) (clash : Bool) (D : List Int) : Prop where
  own : Own w.heap.size w' u D
  yes : cloE v css facts = 0 → Says6 css facts clash D
  no : cloE v css facts ≠ 0 → clash = false ∧ D = []
  fmd : ∀ x ∈ D, Go.Proofs.YtjajafeaengnjaaGreatDoor.fmd x = true
  bel : Below w.heap.size w w'
theorem clo_says {v : Int} {css : List (List Int)} {facts : List Int} {cs : List (Int × Nat)} (hf : frm v css = true) (hs : facts.all fmd = true) (hc : Con facts) (h : Clo css facts cs (-1)) : Says6 css facts false (tid (facts ++ cs.map Prod.fst)) := by
  obtain ⟨h1, h2⟩ := h.calm hc
  refine .inr ⟨rfl, h1, tid_rising _, fun x => ?_⟩
  rw [mem_tid, h2 x]
  refine ⟨fun h3 => h3.1, fun h3 => ⟨h3, ?_⟩⟩
  rcases List.mem_append.1 h3 with a | a
  · exact List.all_eq_true.1 hs x a
  · obtain ⟨c, hc, hx⟩ := h.1.new.2.2 x a
    exact frm_fmd hf c hc x hx
set_option maxRecDepth 100000 in
set_option maxHeartbeats 3200000 in
theorem uClose_any (v : Int) (s vf : Value) (css : List (List Int)) (facts : List Int) (w : World) (hr : Rds w s css) (hf : Rd w vf facts) (hw : Few css) (hD : Deb w) :
    Calls Tryz.prog 85 #[.agg #[.int .i64 v, s], vf] w fun e w' => ∃ u clash D, e = .returned (.tuple #[u, .bool clash, .int .i64 (cloE v css facts)]) ∧ Clz w w' v css facts u clash D := by
  have HR : Hid (Rds w s css ∧ Rd w vf facts ∧ Few css ∧ Deb w) := ⟨hr, hf, hw, hD⟩
  have HNil : Hid (∀ w' (b : Bool) (x : Int), Below w.heap.size w w' → cloE v css facts = x → (x = 0 → Says6 css facts b []) → (x ≠ 0 → b = false) → ∃ u clash D, Ending.returned (.tuple #[.slice none 0 0, .bool b, .int .i64 x]) = .returned (.tuple #[u, .bool clash, .int .i64 (cloE v css facts)]) ∧ Clz w w' v css facts u clash D) := fun w' b x hb hx h1 h2 => ⟨_, b, [], by rw [hx], ⟨World.ownsRow_nil _ _ _ _, fun h => h1 (hx.symm.trans h), fun h => ⟨h2 (fun e => h (hx.trans e)), rfl⟩, by simp, hb⟩⟩
  clear hr hf hw hD
  go_enter Tryz.func85, Tryz.ntmps85
  go_wp2_with fail
  refine (uWhy_any v s vf css facts _ (HR.out.1.below (below_box _ _)) (HR.out.2.1.below (below_box _ _)) HR.out.2.2.1 (HR.out.2.2.2.below (below_box _ _))).mono ?_
  rintro e w1 ⟨u, cs, e0, rfl, hwy⟩
  have HW : Hid (Wy (w.alloc (.cells #[.int .i64 v, s] 24)) w1 v css facts u cs e0) := hwy
  have HB : Hid (Below w.heap.size w w1) := Below.step (below_box _ _) hwy.bel
  obtain ⟨au, cu, eu⟩ := row_form' hwy.row
  subst eu
  clear hwy
  rcases (show (frm v css && facts.all fmd) = false ∨ (frm v css && facts.all fmd) = true by cases (frm v css && facts.all fmd) <;> simp) with hok | hok
  · have HE : Hid (whyE v css facts = 1 ∧ cloE v css facts = 1) := ⟨by unfold whyE; rw [hok]; rfl, by unfold cloE; rw [hok]; rfl⟩
    rw [HE.out.1]
    go_wp2
    go_ret3
    exact HNil.out _ false 1 HB.out HE.out.2 (fun h => absurd h (by decide)) (fun _ => rfl)
  · have HC0 : Hid (cloE v css facts = 0) := by show _ = _; unfold cloE; rw [hok]; rfl
    have hok2 : frm v css = true ∧ facts.all fmd = true := by simpa using hok
    have HOk : Hid (frm v css = true ∧ facts.all fmd = true) := hok2
    cases had : adj (tid facts)
    · have HE : Hid (whyE v css facts = 0) := by show _ = _; unfold whyE; rw [hok, had]; rfl
      have hclo := HW.out.yes HE.out
      have HClo : Hid (Clo css facts cs e0) := hclo
      have HCon : Hid (Con facts) := (adj_con hok2.2).1 had
      rw [HE.out]
      have hcases : e0 = -1 ∨ 0 ≤ e0 := by
        rcases hclo.2 with ⟨a, _⟩ | ⟨k, a, _⟩
        · exact .inl a
        · exact .inr (by omega)
      clear hclo hok hok2 had
      rcases hcases with rfl | hge
      · have HRd : Hid (Rd w1 vf facts) := HR.out.2.1.below HB.out
        go_wp2_with fail
        refine (uClosure_any vf _ facts cs w1 HRd.out (row_mono HW.out.row (Nat.zero_le _)) (HClo.out.few (frm_fmd HOk.out.1))).mono ?_
        rintro e w2 ⟨v2, rfl, own2, bel2⟩
        have HF : Hid (Clz w w2 v css facts v2 false (tid (facts ++ cs.map Prod.fst))) := ⟨own2.mono HB.out.size, fun _ => clo_says HOk.out.1 HOk.out.2 HCon.out HClo.out, fun h => absurd HC0.out h, fun x hx => tid_fmd x hx, Below.step HB.out bel2⟩
        obtain ⟨a2, c2, e2⟩ := own_form own2
        subst e2
        clear own2 bel2
        go_wp2
        go_ret3
        exact ⟨_, false, _, by rw [HC0.out]; rfl, HF.out⟩
      · have HCla : Hid (Cla css facts) := by
          obtain ⟨k, rfl⟩ : ∃ k : Nat, e0 = k := ⟨e0.toNat, by omega⟩
          exact HClo.out.clash (frm_nz HOk.out.1)
        go_wp2
        go_ret3
        exact HNil.out _ true 0 HB.out HC0.out (fun _ => .inl ⟨rfl, HCla.out, rfl⟩) (fun h => absurd rfl h)
    · have HE : Hid (whyE v css facts = 20) := by show _ = _; unfold whyE; rw [hok, had]; rfl
      have HCla : Hid (Cla css facts) := not_con_cla fun hc => by have := (adj_con hok2.2).2 hc; rw [had] at this; cases this
      rw [HE.out]
      clear hok hok2 had
      go_wp2
      go_ret3
      exact HNil.out _ true 0 HB.out HC0.out (fun _ => .inl ⟨rfl, HCla.out, rfl⟩) (fun h => absurd rfl h)
end Go.Proofs.YtjajafeaengnjaaGreatDoor

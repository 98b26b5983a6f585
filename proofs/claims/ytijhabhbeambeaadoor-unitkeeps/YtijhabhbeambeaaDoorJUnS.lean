/-
  joined: UnS UnQ UnE UnBe UnY UnCl UnA RUn RUs RUw RUy RUz UnitWhys
-/
import Derived.Test.YtijhabhbeambeaaDoorUnG
import Derived.Test.YtijhabhbeambeaaDoorAnyInv
import Derived.Test.YtijhabhbeambeaaDoorTidy
import Derived.OwnWalk
import Derived.Test.YtijhabhbeambeaaDoorSmall
import Derived.Test.YtijhabhbeambeaaDoorSames
import Derived.Test.YtijhabhbeambeaaDoorShape
set_option linter.unusedSimpArgs false
set_option linter.unusedVariables false
namespace Go.Proofs.YtijhabhbeambeaaDoor
open Go Go.RowKit

theorem infoB6 : (Tryd.prog.info? 4).map (fun i => (i.zero, i.size, i.bytes)) = some (some (.bool false), 1, 1) := by kernel_rfl
theorem infoI6 : (Tryd.prog.info? 21).map (fun i => (i.zero, i.size, i.bytes)) = some (some (.int .i32 0), 1, 4) := by kernel_rfl
theorem infoP6 : (Tryd.prog.info? 88).map (fun i => (i.zero, i.size, i.bytes)) = some (some (.agg #[.int .i32 0, .int .i32 0]), 2, 8) := by kernel_rfl
def upd (L : Nat → Bool) (i : Nat) : Nat → Bool := fun j => j == i || L j
def Mk (w W : World) (g : Nat) (e : TypeId) (z : Value) (m : Nat) : Prop := W.heap[g]? = some (.cells (madeCells #[z] m) e (0, 0)) ∧ w.heap.size ≤ g
theorem Mk.lift {w W W' : World} {g : Nat} {e : TypeId} {z : Value} {m : Nat} (h : Mk w W g e z m) (hb : Below W.heap.size W W') : Mk w W' g e z m := ⟨(hb.block g (Array.getElem?_eq_some_iff.1 h.1).1).trans h.1, h.2⟩
theorem Mk.new {w W : World} (e : TypeId) (z : Value) (m : Nat) (h : w.heap.size ≤ W.heap.size) : Mk w (W.alloc (.cells (madeCells #[z] m) e)) W.heap.size e z m := ⟨World.alloc_heap_new W _, h⟩
/-- the places' row as it is made: one place, room for m more -/
def MkP (w W : World) (g m : Nat) : Prop := W.heap[g]? = some (.cells (madeCells #[.int .i32 0, .int .i32 0] ((m + 1) * 2)) 88 (0, 0)) ∧ w.heap.size ≤ g
theorem made_place (m : Nat) (hm : m ≤ 2147483648) (w : World) :
    (Instr.makeSlice 67 (.int .i64 1) (.int .i64 ((m : Int) + 1))).run Tryd.prog w = .ok (.slice (some ⟨w.heap.size, 0, none⟩) 1 (m + 1)) (w.alloc (.cells (madeCells #[.int .i32 0, .int .i32 0] ((m + 1) * 2)) 88)) := by
  obtain ⟨i, hi, hz, hs, hb⟩ := info_parts infoP6
  have hr := run_make (P := Tryd.prog) w 67 88 i _ Tryd.underlying67 hi hz .i64 .i64 1 ((m : Int) + 1) (by omega) (by omega) (by rw [hb]; omega) (by omega)
  have e1 : ((m : Int) + 1).toNat = m + 1 := by omega
  simp only [e1, hs] at hr
  exact hr
structure Bg (w w1 : World) (v : Int) (s : Value) (N sz n bx : Nat) (L : Nat → Bool) (W : World) (x4 x10 x11 x12 x13 x14 x15 x16 x17 x18 x19 x20 x21 x22 x23 x24 x25 x26 x27 x28 x29 : Value) : Prop where
  bel : Below w1.heap.size w1 W
  f0 : L 0 = true → x10 = .pointer (some ⟨bx, 1, none⟩)
  f1 : L 1 = true → x11 = s
  f2 : L 2 = true → x12 = .int .i64 (n : Int)
  f3 : L 3 = true → ∃ g, x13 = .slice (some ⟨g, 0, none⟩) n n ∧ Mk w W g 4 (.bool false) n
  f4 : L 4 = true → x14 = .pointer (some ⟨bx, 1, none⟩)
  f5 : L 5 = true → x15 = s
  f6 : L 6 = true → x16 = .int .i64 (N : Int)
  f7 : L 7 = true → ∃ g, x17 = .slice (some ⟨g, 0, none⟩) N N ∧ Mk w W g 21 (.int .i32 0) N
  f8 : L 8 = true → x18 = .int .i64 (n : Int)
  f9 : L 9 = true → ∃ g, x19 = .slice (some ⟨g, 0, none⟩) n n ∧ Mk w W g 21 (.int .i32 0) n
  f10 : L 10 = true → x20 = .agg #[.int .i64 v, s]
  f11 : L 11 = true → x21 = .int .i64 (sz : Int)
  f12 : L 12 = true → x22 = .int .i64 ((sz : Int) + 1)
  f13 : L 13 = true → ∃ g, x23 = .slice (some ⟨g, 0, none⟩) 1 (sz + 1) ∧ MkP w W g sz
  f14 : L 14 = true → x24 = .pointer (some ⟨bx, 1, none⟩)
  f15 : L 15 = true → x25 = s
  f16 : L 16 = true → x26 = .int .i64 (N : Int)
  f17 : L 17 = true → ∃ fs, Wq w.heap.size W x27 fs N (fun _ => false)
  f18 : L 18 = true → x28 = .agg #[x11, x13, x17, x19, x23, x27, .slice none 0 0]
  f19 : L 19 = true → ∃ b, x29 = .pointer (some ⟨b, 0, none⟩) ∧ W.heap[b]? = some (.cells #[x11, x13, x17, x19, x23, x27, .slice none 0 0] 71 (0, 0)) ∧ w.heap.size ≤ b
  f20 : L 20 = true → x4 = x29
  f79 : L 7 = true → L 9 = true → x17.ownBlock ≠ x19.ownBlock
  c18 : L 18 = true → L 1 = true ∧ L 3 = true ∧ L 7 = true ∧ L 9 = true ∧ L 13 = true ∧ L 17 = true
  c19 : L 19 = true → L 18 = true
  c20 : L 20 = true → L 19 = true
theorem Bg.lift {w w1 : World} {v : Int} {s : Value} {N sz n bx : Nat} {L : Nat → Bool} {W W' : World} {x4 x10 x11 x12 x13 x14 x15 x16 x17 x18 x19 x20 x21 x22 x23 x24 x25 x26 x27 x28 x29 : Value} (h : Bg w w1 v s N sz n bx L W x4 x10 x11 x12 x13 x14 x15 x16 x17 x18 x19 x20 x21 x22 x23 x24 x25 x26 x27 x28 x29) (hb : Below W.heap.size W W') : Bg w w1 v s N sz n bx L W' x4 x10 x11 x12 x13 x14 x15 x16 x17 x18 x19 x20 x21 x22 x23 x24 x25 x26 x27 x28 x29 :=
  ⟨Below.step h.bel hb, h.f0, h.f1, h.f2, fun hl => by obtain ⟨g, e, m⟩ := h.f3 hl; exact ⟨g, e, m.lift hb⟩, h.f4, h.f5, h.f6, fun hl => by obtain ⟨g, e, m⟩ := h.f7 hl; exact ⟨g, e, m.lift hb⟩, h.f8, fun hl => by obtain ⟨g, e, m⟩ := h.f9 hl; exact ⟨g, e, m.lift hb⟩, h.f10, h.f11, h.f12, fun hl => by obtain ⟨g, e, m1, m2⟩ := h.f13 hl; exact ⟨g, e, (hb.block g (Array.getElem?_eq_some_iff.1 m1).1).trans m1, m2⟩, h.f14, h.f15, h.f16, fun hl => by obtain ⟨fs, m⟩ := h.f17 hl; exact ⟨fs, m.below hb⟩, h.f18, fun hl => by obtain ⟨b, e, m1, m2⟩ := h.f19 hl; exact ⟨b, e, (hb.block b (Array.getElem?_eq_some_iff.1 m1).1).trans m1, m2⟩, h.f20, h.f79, h.c18, h.c19, h.c20⟩
def BgI (w w1 : World) (v : Int) (s : Value) (N sz n bx : Nat) (y7 y8 y9 : Value) (listed : Array Bool) (a : Act) (W : World) : Prop :=
  listed.size = 21 ∧ ∃ L : Nat → Bool, (∀ j, j < 21 → listed.getD j false = L j) ∧ ∃ x4 x10 x11 x12 x13 x14 x15 x16 x17 x18 x19 x20 x21 x22 x23 x24 x25 x26 x27 x28 x29 : Value, a = ({ tmps := #[.agg #[.int .i64 v, s], .pointer (some ⟨bx, 0, none⟩), .pointer none, .int .i64 (n : Int), x4, undef, undef, y7, y8, y9, x10, x11, x12, x13, x14, x15, x16, x17, x18, x19, x20, x21, x22, x23, x24, x25, x26, x27, x28, x29, undef, undef, undef, undef, undef, undef, undef, undef, undef, undef, undef, undef, undef, undef, undef], defers := [] } : Act) ∧ Bg w w1 v s N sz n bx L W x4 x10 x11 x12 x13 x14 x15 x16 x17 x18 x19 x20 x21 x22 x23 x24 x25 x26 x27 x28 x29
theorem lnk {listed : Array Bool} {L : Nat → Bool} (hs : listed.size = 21) (h : ∀ j, j < 21 → listed.getD j false = L j) {i : Nat} (hi : i < 21) : (listed.setIfInBounds i true).size = 21 ∧ ∀ j, j < 21 → (listed.setIfInBounds i true).getD j false = upd L i j := by
  refine ⟨by simpa using hs, fun j hj => ?_⟩
  rw [set_getD false (by rw [hs]; exact hi), h j hj]
  rfl
theorem Bg.s0 {w w1 : World} {v : Int} {s : Value} {N sz n bx : Nat} {L : Nat → Bool} {W : World} {x4 x10 x11 x12 x13 x14 x15 x16 x17 x18 x19 x20 x21 x22 x23 x24 x25 x26 x27 x28 x29 : Value} (h : Bg w w1 v s N sz n bx L W x4 x10 x11 x12 x13 x14 x15 x16 x17 x18 x19 x20 x21 x22 x23 x24 x25 x26 x27 x28 x29)  : Bg w w1 v s N sz n bx (upd L 0) W x4 (.pointer (some ⟨bx, 1, none⟩)) x11 x12 x13 x14 x15 x16 x17 x18 x19 x20 x21 x22 x23 x24 x25 x26 x27 x28 x29 := by
  have h2 := h.lift (W' := W) (Below.refl _ _)
  exact ⟨h2.bel, fun _ => rfl, h2.f1, h2.f2, h2.f3, h2.f4, h2.f5, h2.f6, h2.f7, h2.f8, h2.f9, h2.f10, h2.f11, h2.f12, h2.f13, h2.f14, h2.f15, h2.f16, h2.f17, h2.f18, h2.f19, h2.f20, h2.f79, h2.c18, h2.c19, h2.c20⟩
theorem Bg.s2 {w w1 : World} {v : Int} {s : Value} {N sz n bx : Nat} {L : Nat → Bool} {W : World} {x4 x10 x11 x12 x13 x14 x15 x16 x17 x18 x19 x20 x21 x22 x23 x24 x25 x26 x27 x28 x29 : Value} (h : Bg w w1 v s N sz n bx L W x4 x10 x11 x12 x13 x14 x15 x16 x17 x18 x19 x20 x21 x22 x23 x24 x25 x26 x27 x28 x29)  : Bg w w1 v s N sz n bx (upd L 2) W x4 x10 x11 (.int .i64 (n : Int)) x13 x14 x15 x16 x17 x18 x19 x20 x21 x22 x23 x24 x25 x26 x27 x28 x29 := by
  have h2 := h.lift (W' := W) (Below.refl _ _)
  exact ⟨h2.bel, h2.f0, h2.f1, fun _ => rfl, h2.f3, h2.f4, h2.f5, h2.f6, h2.f7, h2.f8, h2.f9, h2.f10, h2.f11, h2.f12, h2.f13, h2.f14, h2.f15, h2.f16, h2.f17, h2.f18, h2.f19, h2.f20, h2.f79, h2.c18, h2.c19, h2.c20⟩
theorem Bg.s4 {w w1 : World} {v : Int} {s : Value} {N sz n bx : Nat} {L : Nat → Bool} {W : World} {x4 x10 x11 x12 x13 x14 x15 x16 x17 x18 x19 x20 x21 x22 x23 x24 x25 x26 x27 x28 x29 : Value} (h : Bg w w1 v s N sz n bx L W x4 x10 x11 x12 x13 x14 x15 x16 x17 x18 x19 x20 x21 x22 x23 x24 x25 x26 x27 x28 x29)  : Bg w w1 v s N sz n bx (upd L 4) W x4 x10 x11 x12 x13 (.pointer (some ⟨bx, 1, none⟩)) x15 x16 x17 x18 x19 x20 x21 x22 x23 x24 x25 x26 x27 x28 x29 := by
  have h2 := h.lift (W' := W) (Below.refl _ _)
  exact ⟨h2.bel, h2.f0, h2.f1, h2.f2, h2.f3, fun _ => rfl, h2.f5, h2.f6, h2.f7, h2.f8, h2.f9, h2.f10, h2.f11, h2.f12, h2.f13, h2.f14, h2.f15, h2.f16, h2.f17, h2.f18, h2.f19, h2.f20, h2.f79, h2.c18, h2.c19, h2.c20⟩
theorem Bg.s5 {w w1 : World} {v : Int} {s : Value} {N sz n bx : Nat} {L : Nat → Bool} {W : World} {x4 x10 x11 x12 x13 x14 x15 x16 x17 x18 x19 x20 x21 x22 x23 x24 x25 x26 x27 x28 x29 : Value} (h : Bg w w1 v s N sz n bx L W x4 x10 x11 x12 x13 x14 x15 x16 x17 x18 x19 x20 x21 x22 x23 x24 x25 x26 x27 x28 x29)  : Bg w w1 v s N sz n bx (upd L 5) W x4 x10 x11 x12 x13 x14 (s) x16 x17 x18 x19 x20 x21 x22 x23 x24 x25 x26 x27 x28 x29 := by
  have h2 := h.lift (W' := W) (Below.refl _ _)
  exact ⟨h2.bel, h2.f0, h2.f1, h2.f2, h2.f3, h2.f4, fun _ => rfl, h2.f6, h2.f7, h2.f8, h2.f9, h2.f10, h2.f11, h2.f12, h2.f13, h2.f14, h2.f15, h2.f16, h2.f17, h2.f18, h2.f19, h2.f20, h2.f79, h2.c18, h2.c19, h2.c20⟩
theorem Bg.s6 {w w1 : World} {v : Int} {s : Value} {N sz n bx : Nat} {L : Nat → Bool} {W : World} {x4 x10 x11 x12 x13 x14 x15 x16 x17 x18 x19 x20 x21 x22 x23 x24 x25 x26 x27 x28 x29 : Value} (h : Bg w w1 v s N sz n bx L W x4 x10 x11 x12 x13 x14 x15 x16 x17 x18 x19 x20 x21 x22 x23 x24 x25 x26 x27 x28 x29)  : Bg w w1 v s N sz n bx (upd L 6) W x4 x10 x11 x12 x13 x14 x15 (.int .i64 (N : Int)) x17 x18 x19 x20 x21 x22 x23 x24 x25 x26 x27 x28 x29 := by
  have h2 := h.lift (W' := W) (Below.refl _ _)
  exact ⟨h2.bel, h2.f0, h2.f1, h2.f2, h2.f3, h2.f4, h2.f5, fun _ => rfl, h2.f7, h2.f8, h2.f9, h2.f10, h2.f11, h2.f12, h2.f13, h2.f14, h2.f15, h2.f16, h2.f17, h2.f18, h2.f19, h2.f20, h2.f79, h2.c18, h2.c19, h2.c20⟩
theorem Bg.s8 {w w1 : World} {v : Int} {s : Value} {N sz n bx : Nat} {L : Nat → Bool} {W : World} {x4 x10 x11 x12 x13 x14 x15 x16 x17 x18 x19 x20 x21 x22 x23 x24 x25 x26 x27 x28 x29 : Value} (h : Bg w w1 v s N sz n bx L W x4 x10 x11 x12 x13 x14 x15 x16 x17 x18 x19 x20 x21 x22 x23 x24 x25 x26 x27 x28 x29)  : Bg w w1 v s N sz n bx (upd L 8) W x4 x10 x11 x12 x13 x14 x15 x16 x17 (.int .i64 (n : Int)) x19 x20 x21 x22 x23 x24 x25 x26 x27 x28 x29 := by
  have h2 := h.lift (W' := W) (Below.refl _ _)
  exact ⟨h2.bel, h2.f0, h2.f1, h2.f2, h2.f3, h2.f4, h2.f5, h2.f6, h2.f7, fun _ => rfl, h2.f9, h2.f10, h2.f11, h2.f12, h2.f13, h2.f14, h2.f15, h2.f16, h2.f17, h2.f18, h2.f19, h2.f20, h2.f79, h2.c18, h2.c19, h2.c20⟩
theorem Bg.s10 {w w1 : World} {v : Int} {s : Value} {N sz n bx : Nat} {L : Nat → Bool} {W : World} {x4 x10 x11 x12 x13 x14 x15 x16 x17 x18 x19 x20 x21 x22 x23 x24 x25 x26 x27 x28 x29 : Value} (h : Bg w w1 v s N sz n bx L W x4 x10 x11 x12 x13 x14 x15 x16 x17 x18 x19 x20 x21 x22 x23 x24 x25 x26 x27 x28 x29)  : Bg w w1 v s N sz n bx (upd L 10) W x4 x10 x11 x12 x13 x14 x15 x16 x17 x18 x19 (.agg #[.int .i64 v, s]) x21 x22 x23 x24 x25 x26 x27 x28 x29 := by
  have h2 := h.lift (W' := W) (Below.refl _ _)
  exact ⟨h2.bel, h2.f0, h2.f1, h2.f2, h2.f3, h2.f4, h2.f5, h2.f6, h2.f7, h2.f8, h2.f9, fun _ => rfl, h2.f11, h2.f12, h2.f13, h2.f14, h2.f15, h2.f16, h2.f17, h2.f18, h2.f19, h2.f20, h2.f79, h2.c18, h2.c19, h2.c20⟩
theorem Bg.s12 {w w1 : World} {v : Int} {s : Value} {N sz n bx : Nat} {L : Nat → Bool} {W : World} {x4 x10 x11 x12 x13 x14 x15 x16 x17 x18 x19 x20 x21 x22 x23 x24 x25 x26 x27 x28 x29 : Value} (h : Bg w w1 v s N sz n bx L W x4 x10 x11 x12 x13 x14 x15 x16 x17 x18 x19 x20 x21 x22 x23 x24 x25 x26 x27 x28 x29)  : Bg w w1 v s N sz n bx (upd L 12) W x4 x10 x11 x12 x13 x14 x15 x16 x17 x18 x19 x20 x21 (.int .i64 ((sz : Int) + 1)) x23 x24 x25 x26 x27 x28 x29 := by
  have h2 := h.lift (W' := W) (Below.refl _ _)
  exact ⟨h2.bel, h2.f0, h2.f1, h2.f2, h2.f3, h2.f4, h2.f5, h2.f6, h2.f7, h2.f8, h2.f9, h2.f10, h2.f11, fun _ => rfl, h2.f13, h2.f14, h2.f15, h2.f16, h2.f17, h2.f18, h2.f19, h2.f20, h2.f79, h2.c18, h2.c19, h2.c20⟩
theorem Bg.s14 {w w1 : World} {v : Int} {s : Value} {N sz n bx : Nat} {L : Nat → Bool} {W : World} {x4 x10 x11 x12 x13 x14 x15 x16 x17 x18 x19 x20 x21 x22 x23 x24 x25 x26 x27 x28 x29 : Value} (h : Bg w w1 v s N sz n bx L W x4 x10 x11 x12 x13 x14 x15 x16 x17 x18 x19 x20 x21 x22 x23 x24 x25 x26 x27 x28 x29)  : Bg w w1 v s N sz n bx (upd L 14) W x4 x10 x11 x12 x13 x14 x15 x16 x17 x18 x19 x20 x21 x22 x23 (.pointer (some ⟨bx, 1, none⟩)) x25 x26 x27 x28 x29 := by
  have h2 := h.lift (W' := W) (Below.refl _ _)
  exact ⟨h2.bel, h2.f0, h2.f1, h2.f2, h2.f3, h2.f4, h2.f5, h2.f6, h2.f7, h2.f8, h2.f9, h2.f10, h2.f11, h2.f12, h2.f13, fun _ => rfl, h2.f15, h2.f16, h2.f17, h2.f18, h2.f19, h2.f20, h2.f79, h2.c18, h2.c19, h2.c20⟩
theorem Bg.s15 {w w1 : World} {v : Int} {s : Value} {N sz n bx : Nat} {L : Nat → Bool} {W : World} {x4 x10 x11 x12 x13 x14 x15 x16 x17 x18 x19 x20 x21 x22 x23 x24 x25 x26 x27 x28 x29 : Value} (h : Bg w w1 v s N sz n bx L W x4 x10 x11 x12 x13 x14 x15 x16 x17 x18 x19 x20 x21 x22 x23 x24 x25 x26 x27 x28 x29)  : Bg w w1 v s N sz n bx (upd L 15) W x4 x10 x11 x12 x13 x14 x15 x16 x17 x18 x19 x20 x21 x22 x23 x24 (s) x26 x27 x28 x29 := by
  have h2 := h.lift (W' := W) (Below.refl _ _)
  exact ⟨h2.bel, h2.f0, h2.f1, h2.f2, h2.f3, h2.f4, h2.f5, h2.f6, h2.f7, h2.f8, h2.f9, h2.f10, h2.f11, h2.f12, h2.f13, h2.f14, fun _ => rfl, h2.f16, h2.f17, h2.f18, h2.f19, h2.f20, h2.f79, h2.c18, h2.c19, h2.c20⟩
theorem Bg.s16 {w w1 : World} {v : Int} {s : Value} {N sz n bx : Nat} {L : Nat → Bool} {W : World} {x4 x10 x11 x12 x13 x14 x15 x16 x17 x18 x19 x20 x21 x22 x23 x24 x25 x26 x27 x28 x29 : Value} (h : Bg w w1 v s N sz n bx L W x4 x10 x11 x12 x13 x14 x15 x16 x17 x18 x19 x20 x21 x22 x23 x24 x25 x26 x27 x28 x29)  : Bg w w1 v s N sz n bx (upd L 16) W x4 x10 x11 x12 x13 x14 x15 x16 x17 x18 x19 x20 x21 x22 x23 x24 x25 (.int .i64 (N : Int)) x27 x28 x29 := by
  have h2 := h.lift (W' := W) (Below.refl _ _)
  exact ⟨h2.bel, h2.f0, h2.f1, h2.f2, h2.f3, h2.f4, h2.f5, h2.f6, h2.f7, h2.f8, h2.f9, h2.f10, h2.f11, h2.f12, h2.f13, h2.f14, h2.f15, fun _ => rfl, h2.f17, h2.f18, h2.f19, h2.f20, h2.f79, h2.c18, h2.c19, h2.c20⟩
theorem Bg.s1 {w w1 : World} {v : Int} {s : Value} {N sz n bx : Nat} {L : Nat → Bool} {W : World} {x4 x10 x11 x12 x13 x14 x15 x16 x17 x18 x19 x20 x21 x22 x23 x24 x25 x26 x27 x28 x29 : Value} (h : Bg w w1 v s N sz n bx L W x4 x10 x11 x12 x13 x14 x15 x16 x17 x18 x19 x20 x21 x22 x23 x24 x25 x26 x27 x28 x29) (q18 : L 18 = false) (q19 : L 19 = false)  : Bg w w1 v s N sz n bx (upd L 1) W x4 x10 (s) x12 x13 x14 x15 x16 x17 x18 x19 x20 x21 x22 x23 x24 x25 x26 x27 x28 x29 := by
  have h2 := h.lift (W' := W) (Below.refl _ _)
  exact ⟨h2.bel, h2.f0, fun _ => rfl, h2.f2, h2.f3, h2.f4, h2.f5, h2.f6, h2.f7, h2.f8, h2.f9, h2.f10, h2.f11, h2.f12, h2.f13, h2.f14, h2.f15, h2.f16, h2.f17, fun hl => absurd (show L 18 = true from hl) (by rw [q18]; decide), fun hl => absurd (show L 19 = true from hl) (by rw [q19]; decide), h2.f20, h2.f79, fun hl => absurd (show L 18 = true from hl) (by rw [q18]; decide), h2.c19, h2.c20⟩
theorem Bg.s3 {w w1 : World} {v : Int} {s : Value} {N sz n bx : Nat} {L : Nat → Bool} {W : World} {x4 x10 x11 x12 x13 x14 x15 x16 x17 x18 x19 x20 x21 x22 x23 x24 x25 x26 x27 x28 x29 : Value} (h : Bg w w1 v s N sz n bx L W x4 x10 x11 x12 x13 x14 x15 x16 x17 x18 x19 x20 x21 x22 x23 x24 x25 x26 x27 x28 x29) (q18 : L 18 = false) (q19 : L 19 = false) (hw : w.heap.size ≤ W.heap.size) : Bg w w1 v s N sz n bx (upd L 3) (W.alloc (.cells (madeCells #[.bool false] n) 4)) x4 x10 x11 x12 (.slice (some ⟨W.heap.size, 0, none⟩) n n) x14 x15 x16 x17 x18 x19 x20 x21 x22 x23 x24 x25 x26 x27 x28 x29 := by
  have h2 := h.lift (W' := (W.alloc (.cells (madeCells #[.bool false] n) 4))) (below_box _ _)
  exact ⟨h2.bel, h2.f0, h2.f1, h2.f2, fun _ => ⟨_, rfl, Mk.new _ _ _ hw⟩, h2.f4, h2.f5, h2.f6, h2.f7, h2.f8, h2.f9, h2.f10, h2.f11, h2.f12, h2.f13, h2.f14, h2.f15, h2.f16, h2.f17, fun hl => absurd (show L 18 = true from hl) (by rw [q18]; decide), fun hl => absurd (show L 19 = true from hl) (by rw [q19]; decide), h2.f20, h2.f79, fun hl => absurd (show L 18 = true from hl) (by rw [q18]; decide), h2.c19, h2.c20⟩
theorem Bg.s7 {w w1 : World} {v : Int} {s : Value} {N sz n bx : Nat} {L : Nat → Bool} {W : World} {x4 x10 x11 x12 x13 x14 x15 x16 x17 x18 x19 x20 x21 x22 x23 x24 x25 x26 x27 x28 x29 : Value} (h : Bg w w1 v s N sz n bx L W x4 x10 x11 x12 x13 x14 x15 x16 x17 x18 x19 x20 x21 x22 x23 x24 x25 x26 x27 x28 x29) (q18 : L 18 = false) (q19 : L 19 = false) (hw : w.heap.size ≤ W.heap.size) : Bg w w1 v s N sz n bx (upd L 7) (W.alloc (.cells (madeCells #[.int .i32 0] N) 21)) x4 x10 x11 x12 x13 x14 x15 x16 (.slice (some ⟨W.heap.size, 0, none⟩) N N) x18 x19 x20 x21 x22 x23 x24 x25 x26 x27 x28 x29 := by
  have h2 := h.lift (W' := (W.alloc (.cells (madeCells #[.int .i32 0] N) 21))) (below_box _ _)
  exact ⟨h2.bel, h2.f0, h2.f1, h2.f2, h2.f3, h2.f4, h2.f5, h2.f6, fun _ => ⟨_, rfl, Mk.new _ _ _ hw⟩, h2.f8, h2.f9, h2.f10, h2.f11, h2.f12, h2.f13, h2.f14, h2.f15, h2.f16, h2.f17, fun hl => absurd (show L 18 = true from hl) (by rw [q18]; decide), fun hl => absurd (show L 19 = true from hl) (by rw [q19]; decide), h2.f20, fun _ hl e => by obtain ⟨g, eg, m⟩ := h.f9 (show L 9 = true from hl); subst eg; have := (Array.getElem?_eq_some_iff.1 m.1).1; simp [Value.ownBlock] at e; omega, fun hl => absurd (show L 18 = true from hl) (by rw [q18]; decide), h2.c19, h2.c20⟩
theorem Bg.s9 {w w1 : World} {v : Int} {s : Value} {N sz n bx : Nat} {L : Nat → Bool} {W : World} {x4 x10 x11 x12 x13 x14 x15 x16 x17 x18 x19 x20 x21 x22 x23 x24 x25 x26 x27 x28 x29 : Value} (h : Bg w w1 v s N sz n bx L W x4 x10 x11 x12 x13 x14 x15 x16 x17 x18 x19 x20 x21 x22 x23 x24 x25 x26 x27 x28 x29) (q18 : L 18 = false) (q19 : L 19 = false) (hw : w.heap.size ≤ W.heap.size) : Bg w w1 v s N sz n bx (upd L 9) (W.alloc (.cells (madeCells #[.int .i32 0] n) 21)) x4 x10 x11 x12 x13 x14 x15 x16 x17 x18 (.slice (some ⟨W.heap.size, 0, none⟩) n n) x20 x21 x22 x23 x24 x25 x26 x27 x28 x29 := by
  have h2 := h.lift (W' := (W.alloc (.cells (madeCells #[.int .i32 0] n) 21))) (below_box _ _)
  exact ⟨h2.bel, h2.f0, h2.f1, h2.f2, h2.f3, h2.f4, h2.f5, h2.f6, h2.f7, h2.f8, fun _ => ⟨_, rfl, Mk.new _ _ _ hw⟩, h2.f10, h2.f11, h2.f12, h2.f13, h2.f14, h2.f15, h2.f16, h2.f17, fun hl => absurd (show L 18 = true from hl) (by rw [q18]; decide), fun hl => absurd (show L 19 = true from hl) (by rw [q19]; decide), h2.f20, fun hl _ e => by obtain ⟨g, eg, m⟩ := h.f7 (show L 7 = true from hl); subst eg; have := (Array.getElem?_eq_some_iff.1 m.1).1; simp [Value.ownBlock] at e; omega, fun hl => absurd (show L 18 = true from hl) (by rw [q18]; decide), h2.c19, h2.c20⟩
theorem Bg.s11 {w w1 : World} {v : Int} {s : Value} {N sz n bx : Nat} {L : Nat → Bool} {W : World} {x4 x10 x11 x12 x13 x14 x15 x16 x17 x18 x19 x20 x21 x22 x23 x24 x25 x26 x27 x28 x29 : Value} (h : Bg w w1 v s N sz n bx L W x4 x10 x11 x12 x13 x14 x15 x16 x17 x18 x19 x20 x21 x22 x23 x24 x25 x26 x27 x28 x29) {W2 : World} (hb : Below W.heap.size W W2) : Bg w w1 v s N sz n bx (upd L 11) W2 x4 x10 x11 x12 x13 x14 x15 x16 x17 x18 x19 x20 (.int .i64 (sz : Int)) x22 x23 x24 x25 x26 x27 x28 x29 := by
  have h2 := h.lift (W' := W2) hb
  exact ⟨h2.bel, h2.f0, h2.f1, h2.f2, h2.f3, h2.f4, h2.f5, h2.f6, h2.f7, h2.f8, h2.f9, h2.f10, fun _ => rfl, h2.f12, h2.f13, h2.f14, h2.f15, h2.f16, h2.f17, h2.f18, h2.f19, h2.f20, h2.f79, h2.c18, h2.c19, h2.c20⟩
theorem Bg.s13 {w w1 : World} {v : Int} {s : Value} {N sz n bx : Nat} {L : Nat → Bool} {W : World} {x4 x10 x11 x12 x13 x14 x15 x16 x17 x18 x19 x20 x21 x22 x23 x24 x25 x26 x27 x28 x29 : Value} (h : Bg w w1 v s N sz n bx L W x4 x10 x11 x12 x13 x14 x15 x16 x17 x18 x19 x20 x21 x22 x23 x24 x25 x26 x27 x28 x29) (q18 : L 18 = false) (q19 : L 19 = false) (hw : w.heap.size ≤ W.heap.size) : Bg w w1 v s N sz n bx (upd L 13) (W.alloc (.cells (madeCells #[.int .i32 0, .int .i32 0] ((sz + 1) * 2)) 88)) x4 x10 x11 x12 x13 x14 x15 x16 x17 x18 x19 x20 x21 x22 (.slice (some ⟨W.heap.size, 0, none⟩) 1 (sz + 1)) x24 x25 x26 x27 x28 x29 := by
  have h2 := h.lift (W' := (W.alloc (.cells (madeCells #[.int .i32 0, .int .i32 0] ((sz + 1) * 2)) 88))) (below_box _ _)
  exact ⟨h2.bel, h2.f0, h2.f1, h2.f2, h2.f3, h2.f4, h2.f5, h2.f6, h2.f7, h2.f8, h2.f9, h2.f10, h2.f11, h2.f12, fun _ => ⟨_, rfl, World.alloc_heap_new W _, hw⟩, h2.f14, h2.f15, h2.f16, h2.f17, fun hl => absurd (show L 18 = true from hl) (by rw [q18]; decide), fun hl => absurd (show L 19 = true from hl) (by rw [q19]; decide), h2.f20, h2.f79, fun hl => absurd (show L 18 = true from hl) (by rw [q18]; decide), h2.c19, h2.c20⟩
theorem Bg.s17 {w w1 : World} {v : Int} {s : Value} {N sz n bx : Nat} {L : Nat → Bool} {W : World} {x4 x10 x11 x12 x13 x14 x15 x16 x17 x18 x19 x20 x21 x22 x23 x24 x25 x26 x27 x28 x29 : Value} (h : Bg w w1 v s N sz n bx L W x4 x10 x11 x12 x13 x14 x15 x16 x17 x18 x19 x20 x21 x22 x23 x24 x25 x26 x27 x28 x29) (q18 : L 18 = false) (q19 : L 19 = false) {W2 : World} {u : Value} {fs : List Value} (hb : Below W.heap.size W W2) (hq : Wq w.heap.size W2 u fs N (fun _ => false)) : Bg w w1 v s N sz n bx (upd L 17) W2 x4 x10 x11 x12 x13 x14 x15 x16 x17 x18 x19 x20 x21 x22 x23 x24 x25 x26 (u) x28 x29 := by
  have h2 := h.lift (W' := W2) hb
  exact ⟨h2.bel, h2.f0, h2.f1, h2.f2, h2.f3, h2.f4, h2.f5, h2.f6, h2.f7, h2.f8, h2.f9, h2.f10, h2.f11, h2.f12, h2.f13, h2.f14, h2.f15, h2.f16, fun _ => ⟨fs, hq⟩, fun hl => absurd (show L 18 = true from hl) (by rw [q18]; decide), fun hl => absurd (show L 19 = true from hl) (by rw [q19]; decide), h2.f20, h2.f79, fun hl => absurd (show L 18 = true from hl) (by rw [q18]; decide), h2.c19, h2.c20⟩
theorem Bg.s18 {w w1 : World} {v : Int} {s : Value} {N sz n bx : Nat} {L : Nat → Bool} {W : World} {x4 x10 x11 x12 x13 x14 x15 x16 x17 x18 x19 x20 x21 x22 x23 x24 x25 x26 x27 x28 x29 : Value} (h : Bg w w1 v s N sz n bx L W x4 x10 x11 x12 x13 x14 x15 x16 x17 x18 x19 x20 x21 x22 x23 x24 x25 x26 x27 x28 x29) (hc : L 1 = true ∧ L 3 = true ∧ L 7 = true ∧ L 9 = true ∧ L 13 = true ∧ L 17 = true) : Bg w w1 v s N sz n bx (upd L 18) W x4 x10 x11 x12 x13 x14 x15 x16 x17 x18 x19 x20 x21 x22 x23 x24 x25 x26 x27 (.agg #[x11, x13, x17, x19, x23, x27, .slice none 0 0]) x29 := by
  have h2 := h.lift (W' := W) (Below.refl _ _)
  exact ⟨h2.bel, h2.f0, h2.f1, h2.f2, h2.f3, h2.f4, h2.f5, h2.f6, h2.f7, h2.f8, h2.f9, h2.f10, h2.f11, h2.f12, h2.f13, h2.f14, h2.f15, h2.f16, h2.f17, fun _ => rfl, h2.f19, h2.f20, h2.f79, fun _ => hc, fun _ => rfl, h2.c20⟩
theorem Bg.s19 {w w1 : World} {v : Int} {s : Value} {N sz n bx : Nat} {L : Nat → Bool} {W : World} {x4 x10 x11 x12 x13 x14 x15 x16 x17 x18 x19 x20 x21 x22 x23 x24 x25 x26 x27 x28 x29 : Value} (h : Bg w w1 v s N sz n bx L W x4 x10 x11 x12 x13 x14 x15 x16 x17 x18 x19 x20 x21 x22 x23 x24 x25 x26 x27 x28 x29) (hc : L 18 = true) (q20 : L 20 = false) (hw : w.heap.size ≤ W.heap.size) : Bg w w1 v s N sz n bx (upd L 19) (W.alloc (.cells #[x11, x13, x17, x19, x23, x27, .slice none 0 0] 71)) x4 x10 x11 x12 x13 x14 x15 x16 x17 x18 x19 x20 x21 x22 x23 x24 x25 x26 x27 x28 (.pointer (some ⟨W.heap.size, 0, none⟩)) := by
  have h2 := h.lift (W' := (W.alloc (.cells #[x11, x13, x17, x19, x23, x27, .slice none 0 0] 71))) (below_box _ _)
  exact ⟨h2.bel, h2.f0, h2.f1, h2.f2, h2.f3, h2.f4, h2.f5, h2.f6, h2.f7, h2.f8, h2.f9, h2.f10, h2.f11, h2.f12, h2.f13, h2.f14, h2.f15, h2.f16, h2.f17, h2.f18, fun _ => ⟨_, rfl, World.alloc_heap_new W _, hw⟩, fun hl => absurd (show L 20 = true from hl) (by rw [q20]; decide), h2.f79, h2.c18, fun _ => hc, fun _ => rfl⟩
theorem Bg.s20 {w w1 : World} {v : Int} {s : Value} {N sz n bx : Nat} {L : Nat → Bool} {W : World} {x4 x10 x11 x12 x13 x14 x15 x16 x17 x18 x19 x20 x21 x22 x23 x24 x25 x26 x27 x28 x29 : Value} (h : Bg w w1 v s N sz n bx L W x4 x10 x11 x12 x13 x14 x15 x16 x17 x18 x19 x20 x21 x22 x23 x24 x25 x26 x27 x28 x29) (hc : L 19 = true) : Bg w w1 v s N sz n bx (upd L 20) W (x29) x10 x11 x12 x13 x14 x15 x16 x17 x18 x19 x20 x21 x22 x23 x24 x25 x26 x27 x28 x29 := by
  have h2 := h.lift (W' := W) (Below.refl _ _)
  exact ⟨h2.bel, h2.f0, h2.f1, h2.f2, h2.f3, h2.f4, h2.f5, h2.f6, h2.f7, h2.f8, h2.f9, h2.f10, h2.f11, h2.f12, h2.f13, h2.f14, h2.f15, h2.f16, h2.f17, h2.f18, h2.f19, fun _ => rfl, h2.f79, h2.c18, h2.c19, fun _ => hc⟩
theorem Bg.q18 {w w1 : World} {v : Int} {s : Value} {N sz n bx : Nat} {L : Nat → Bool} {W : World} {x4 x10 x11 x12 x13 x14 x15 x16 x17 x18 x19 x20 x21 x22 x23 x24 x25 x26 x27 x28 x29 : Value} (h : Bg w w1 v s N sz n bx L W x4 x10 x11 x12 x13 x14 x15 x16 x17 x18 x19 x20 x21 x22 x23 x24 x25 x26 x27 x28 x29) (hi : L 1 = false ∨ L 3 = false ∨ L 7 = false ∨ L 9 = false ∨ L 13 = false ∨ L 17 = false) : L 18 = false ∧ L 19 = false := by
  have h1 : L 18 = false := by
    cases e : L 18
    · rfl
    · obtain ⟨a, b, c, d, f, g⟩ := h.c18 e
      rcases hi with i | i | i | i | i | i
      · rw [a] at i; cases i
      · rw [b] at i; cases i
      · rw [c] at i; cases i
      · rw [d] at i; cases i
      · rw [f] at i; cases i
      · rw [g] at i; cases i
  refine ⟨h1, ?_⟩
  cases e : L 19
  · rfl
  · rw [h.c19 e] at h1; cases h1
theorem Bg.q20 {w w1 : World} {v : Int} {s : Value} {N sz n bx : Nat} {L : Nat → Bool} {W : World} {x4 x10 x11 x12 x13 x14 x15 x16 x17 x18 x19 x20 x21 x22 x23 x24 x25 x26 x27 x28 x29 : Value} (h : Bg w w1 v s N sz n bx L W x4 x10 x11 x12 x13 x14 x15 x16 x17 x18 x19 x20 x21 x22 x23 x24 x25 x26 x27 x28 x29) (hi : L 19 = false) : L 20 = false := by
  cases e : L 20
  · rfl
  · rw [h.c20 e] at hi; cases hi
theorem getD_ft {listed : Array Bool} {i : Nat} (hs : listed.size = 21) (hi : i < 21) (h : listed.getD i true = false) : listed.getD i false = false := by
  have hj : i < listed.size := by omega
  simp [Array.getD, hj] at h ⊢
  exact h
end Go.Proofs.YtijhabhbeambeaaDoor
set_option linter.unusedSimpArgs false
set_option linter.unusedVariables false
namespace Go.Proofs.YtijhabhbeambeaaDoor
open Go Go.RowKit

theorem wq_base {B B' : Nat} {W : World} {v : Value} {fs : List Value} {N : Nat} {Q : Nat → Bool} (h : Wq B W v fs N Q) (hb : B' ≤ B) : Wq B' W v fs N Q := by
  obtain ⟨Ls, e, hw, hl⟩ := h
  exact ⟨Ls, e, ⟨row_mono hw.row hb, fun c hc => row_mono (hw.lv c hc) hb, hw.ap⟩, hl⟩
/-- how many literals there are -/
def lsum (css : List (List Int)) : Nat := (css.map List.length).sum
theorem back_of {ops : Array Oper} {md : Region.Mode} (h : ((List.range ops.size).all fun j => match ops[j]? with | some o => o.after.all (fun e => decide (e.on < j)) | none => true) = true) : ∀ (j : Nat) o, ops[j]? = some o → ∀ e ∈ o.after, Region.binds md e = true → e.on < j := by
  intro j o ho e he _
  have hj : j < ops.size := (Array.getElem?_eq_some_iff.1 ho).1
  have := List.all_eq_true.1 h j (List.mem_range.2 hj)
  rw [ho] at this
  exact of_decide_eq_true (Array.all_eq_true_iff_forall_mem.1 this e he)
theorem made_two6 (z : Value) (m : Nat) : madeCells #[z, z] m = (List.replicate m z).toArray := by
  apply Array.ext'
  refine List.ext_getElem? fun i => ?_
  by_cases hi : i < m
  · have : i % 2 = 0 ∨ i % 2 = 1 := by omega
    rcases this with h | h <;> simp [madeCells, hi, h]
  · simp [madeCells, hi]
/-- a closing that is being made -/
structure Ce (w0 W : World) (b : Nat) (s : Sz) (n : Nat) (X : List (List Int)) (Q : Nat → Bool) : Prop where
  bel : Below w0.heap.size w0 W
  fit : Fit X n
  z : ∃ F P, Cz w0.heap.size W b s n X.length (inLs n []) (lefts X []) F P Q [] ∧ Pls X n F P ∧ P.length ≤ lsum X + 1
theorem Ce.below {w0 W W' : World} {b : Nat} {s : Sz} {n : Nat} {X : List (List Int)} {Q : Nat → Bool} (h : Ce w0 W b s n X Q) (hb : Below W.heap.size W W') : Ce w0 W' b s n X Q := by
  obtain ⟨F, P, hz, hp⟩ := h.z
  exact ⟨Below.step h.bel hb, h.fit, F, P, hz.below hb, hp⟩
theorem Bg.fin {w w1 : World} {v : Int} {s : Value} {N sz n bx : Nat} {L : Nat → Bool} {W : World} {x4 x10 x11 x12 x13 x14 x15 x16 x17 x18 x19 x20 x21 x22 x23 x24 x25 x26 x27 x28 x29 : Value} (h : Bg w w1 v s N sz n bx L W x4 x10 x11 x12 x13 x14 x15 x16 x17 x18 x19 x20 x21 x22 x23 x24 x25 x26 x27 x28 x29) (hall : ∀ j, j < 21 → L j = true) (hb : Below w.heap.size w w1) (hN : N ≤ 1073741824) (hn : n ≤ 2097152) (hev : n % 2 = 0) (hsz : sz + 1 ≤ maxLen) :
    ∃ b sz, x4 = .pointer (some ⟨b, 0, none⟩) ∧ Ce w W b sz n (List.replicate N []) (fun _ => false) ∧ sz.C = s := by
  have t : ∀ j, j < 21 → L j = true := hall
  obtain ⟨b, e29, hbx, hbb⟩ := h.f19 (t 19 (by decide))
  have e4 := h.f20 (t 20 (by decide))
  have e11 := h.f1 (t 1 (by decide))
  obtain ⟨g3, e13, m3⟩ := h.f3 (t 3 (by decide))
  obtain ⟨g7, e17, m7⟩ := h.f7 (t 7 (by decide))
  obtain ⟨g9, e19, m9⟩ := h.f9 (t 9 (by decide))
  obtain ⟨g13, e23, m13, m13b⟩ := h.f13 (t 13 (by decide))
  obtain ⟨fs, hq⟩ := h.f17 (t 17 (by decide))
  have hne := h.f79 (t 7 (by decide)) (t 9 (by decide))
  have row : ∀ {g : Nat} {e : TypeId} {z : Value} {m : Nat}, Mk w W g e z m → m ≤ maxLen → W.ownsRow w.heap.size e 1 (.slice (some ⟨g, 0, none⟩) m m) m (List.replicate m z) := fun {g e z m} hm hl => by
    refine ⟨by simp, .inr ⟨g, m, _, rfl, hm.2, hm.1, Nat.le_refl _, hl, by rw [made_zero6]; simp, ?_⟩⟩
    rw [made_zero6]; simp
  refine ⟨b, ⟨s, x13, x17, x19, x23, x27, .slice none 0 0, fs⟩, e4.trans e29, ⟨Below.step hb h.bel, ⟨hn, hev, by simpa using hN, fun c hc => ?_, fun c hc l hl => ?_⟩, List.replicate n 0, [(0, 0)], ⟨by rw [← e11]; exact hbx, hbb, ?_, ?_, ?_, ?_, ?_, World.ownsRow_nil _ _ _ _, ?_⟩, ⟨by simp, by simp, fun i p hi => ?_, fun p k q hp hq => ?_⟩, by simp⟩, rfl⟩
  · rw [(List.mem_replicate.1 hc).2]; simp
  · rw [(List.mem_replicate.1 hc).2] at hl; simp at hl
  · have e : (inLs n []).map Value.bool = List.replicate n (.bool false) := by
      unfold inLs; rw [List.map_map]; apply List.ext_getElem (by simp); intro i h1 h2; simp
    rw [e, e13]; exact row m3 (by unfold maxLen; omega)
  · have e : i32s (lefts (List.replicate N []) []) = List.replicate N (.int .i32 0) := by
      unfold i32s lefts; rw [List.map_replicate, List.map_replicate]; simp [cnt_nil]
    rw [e, e17, List.length_replicate]; exact row m7 (by unfold maxLen; omega)
  · have e : i32s ((List.replicate n 0).map fun (x : Nat) => (x : Int)) = List.replicate n (.int .i32 0) := by
      unfold i32s; rw [List.map_replicate, List.map_replicate]; rfl
    rw [e, e19]; exact row m9 (by unfold maxLen; omega)
  · rw [e23]
    refine ⟨by simp [twp], .inr ⟨g13, sz + 1, _, rfl, m13b, m13, by simp, hsz, by simp [size_madeCells], ?_⟩⟩
    rw [made_two6]; simp [twp, List.take_replicate]
    rw [Nat.min_eq_left (by omega)]; rfl
  · rw [List.length_replicate]; exact hq
  · intro k hk hk2
    exact hne (by rw [← hk, ← hk2])
  · have hp : p = 0 := by
      rw [List.getElem?_replicate] at hi
      split at hi
      · injection hi with hi; exact hi.symm
      · cases hi
    subst hp
    refine ⟨by simp, [], .nil, by simp, fun k => ?_⟩
    have : (List.replicate N ([] : List Int)).getD k [] = [] := by
      rw [List.getD_eq_getElem?_getD, List.getElem?_replicate]; split <;> rfl
    rw [this]
    simp
  · have := (List.getElem?_eq_some_iff.1 hq).1
    simp at this
    omega
end Go.Proofs.YtijhabhbeambeaaDoor
set_option linter.unusedSimpArgs false
set_option linter.unusedVariables false
namespace Go.Proofs.YtijhabhbeambeaaDoor
open Go Go.RowKit

theorem lsum_set {X : List (List Int)} {m : Nat} {c : List Int} (hm : m < X.length) : lsum (X.set m c) + (X.getD m []).length = lsum X + c.length := by
  unfold lsum
  induction X generalizing m with
  | nil => simp at hm
  | cons y r ih =>
    cases m with
    | zero => simp; omega
    | succ m =>
      have := ih (m := m) (by simpa using hm)
      simp at this ⊢
      omega
theorem lefts_set {X : List (List Int)} {m : Nat} {c : List Int} : lefts (X.set m c) [] = (lefts X []).set m (cnt [] c : Int) := by unfold lefts; rw [List.map_set]
theorem lefts_at {X : List (List Int)} {m : Nat} (hm : m < X.length) : (lefts X [])[m]? = some (cnt [] (X.getD m []) : Int) := by
  unfold lefts
  rw [List.getElem?_map, List.getElem?_eq_getElem hm, List.getD_eq_getElem?_getD, List.getElem?_eq_getElem hm]; rfl
theorem Fit.set {X : List (List Int)} {n m : Nat} {c : List Int} (h : Fit X n) (hl : c.length ≤ 1073741824) (hc : ∀ l ∈ c, fmd l = true ∧ idx l < n) : Fit (X.set m c) n := by
  refine ⟨h.hn, h.ev, by rw [List.length_set]; exact h.num, fun d hd => ?_, fun d hd l hld => ?_⟩
  · rcases List.mem_or_eq_of_mem_set hd with a | a
    · exact h.len d a
    · rw [a]; exact hl
  · rcases List.mem_or_eq_of_mem_set hd with a | a
    · exact h.lit d a l hld
    · rw [a] at hld; exact hc l hld
/-- the state inside of enter: so many literals of the clause number m are noted -/
structure En6 (w0 w W : World) (b : Nat) (s : Sz) (u : Value) (n : Nat) (X : List (List Int)) (Q : Nat → Bool) : Prop where
  ce : Ce w0 W b { s with P := u } n X Q
  mo : Mo w (s.own b) W (({ s with P := u } : Sz).own b)
theorem En6.below {w0 w W W' : World} {b : Nat} {s : Sz} {u : Value} {n : Nat} {X : List (List Int)} {Q : Nat → Bool} (h : En6 w0 w W b s u n X Q) (hb : Below W.heap.size W W') : En6 w0 w W' b s u n X Q := ⟨h.ce.below hb, h.mo.trans (Mo.below hb)⟩
/-- a literal that was noted already -/
theorem Ce.same {w0 W : World} {b : Nat} {s : Sz} {n m : Nat} {X : List (List Int)} {Q : Nat → Bool} {l : Int} (h : Ce w0 W b s n X Q) (hm : m < X.length) (hl : l ∈ X.getD m []) (hlen : (X.getD m []).length + 1 ≤ 1073741824) (hf : fmd l = true ∧ idx l < n) : Ce w0 W b s n (X.set m (X.getD m [] ++ [l])) Q := by
  obtain ⟨F, P, hz, hp, hP⟩ := h.z
  refine ⟨h.bel, h.fit.set (by simpa using hlen) (fun x hx => ?_), F, P, ?_, hp.same hm hl, ?_⟩
  · rcases List.mem_append.1 hx with a | a
    · exact h.fit.lit _ (getD_in hm) x a
    · rw [show x = l by simpa using a]; exact hf
  · have e : lefts (X.set m (X.getD m [] ++ [l])) [] = lefts X [] := by
      rw [lefts_set, cnt_more, if_pos hl, Nat.add_zero]
      apply List.ext_getElem?
      intro i
      by_cases e : m = i
      · subst e
        rw [List.getElem?_set_self (by simpa [lefts] using hm), lefts_at hm]
      · rw [List.getElem?_set_ne e]
    rw [e, List.length_set]
    exact hz
  · have := lsum_set (c := X.getD m [] ++ [l]) hm
    rw [List.length_append, List.length_singleton] at this
    omega
theorem upto {X : List (List Int)} {m j : Nat} {c : List Int} (hj : j < c.length) (hm : m < X.length) : (X.set m (c.take j)).set m ((X.set m (c.take j)).getD m [] ++ [c.getD j 0]) = X.set m (c.take (j + 1)) := by
  rw [getD_set_self hm, List.set_set, ← take_succ_getD c 0 j hj]

theorem Tryd.infoPlace : (Tryd.prog.info? 88).map (fun i => (i.zero, i.size, i.bytes)) = some (some (.agg #[.int .i32 0, .int .i32 0]), 2, 8) := by kernel_rfl
theorem twp_snoc (P : List (Nat × Nat)) (m p : Nat) : twp (P ++ [(m, p)]) = twp P ++ [.int .i32 (m : Int), .int .i32 (p : Int)] := by simp [twp]

set_option maxRecDepth 100000 in
set_option maxHeartbeats 4000000 in
theorem uEnter_any (w0 : World) (b : Nat) (s : Sz) (n : Nat) (X : List (List Int)) (Q : Nat → Bool) (m : Nat) (v : Value) (c : List Int) (w : World) (h : Ce w0 w b s n X Q) (hr : Rd w0 v c) (hm : m < X.length) (h0 : X.getD m [] = []) (hgt : ∀ k, m < k → X.getD k [] = []) (hc : ∀ l ∈ c, fmd l = true ∧ idx l < n) (hcl : c.length ≤ 1073741824) (hsum : lsum X + c.length ≤ 2147483647) (hq : Q m = false) :
    Calls Tryd.prog 51 #[.pointer (some ⟨b, 0, none⟩), .int .i32 (m : Int), v] w fun e w' => e = .returned (.tuple #[]) ∧ ∃ u Q', En6 w0 w w' b s u n (X.set m c) Q' ∧ ∀ k, Q' k = true ↔ Q k = true ∨ (k = m ∧ cnt [] c ≤ 1) := by
  have HS0 : Hid (En6 w0 w w b s s.P n X Q) := ⟨h, Mo.refl _ _⟩
  have HB0 : Hid (Below w0.heap.size w0 w ∧ ∀ k, s.own b k → w0.heap.size ≤ k) := ⟨h.bel, fun k hk => by obtain ⟨F, P, hz, _⟩ := h.z; exact (hz.lt k hk).1⟩
  have hX0 : X.set m (c.take 0) = X := by
    apply List.ext_getElem?
    intro i
    by_cases e : m = i
    · subst e
      rw [List.getElem?_set_self hm, List.getElem?_eq_getElem hm]
      rw [List.getD_eq_getElem?_getD, List.getElem?_eq_getElem hm] at h0
      simpa using h0.symm
    · rw [List.getElem?_set_ne e]
  have HX0 : Hid (X.set m (c.take 0) = X) := hX0
  obtain ⟨a, cv, rfl, l1, l2, hcell⟩ := hr.form
  have HC : Hid (∀ (W : World) (j : Nat), Below w0.heap.size w0 W → j < c.length → ∃ bb off, a = some ⟨bb, off, none⟩ ∧ W.cell? ⟨bb, off + j, none⟩ = some (.int .i64 (c.getD j 0))) := fun W j hW hj => by
    obtain ⟨bb, off, e, hc⟩ := hcell j hj
    exact ⟨bb, off, e, (hW.cell (p := ⟨bb, off + j, none⟩) (World.block_lt_of_cell? w0 _ hc)).trans hc⟩
  have HX : Hid (m < X.length ∧ (∀ k, m < k → X.getD k [] = []) ∧ (∀ l ∈ c, fmd l = true ∧ idx l < n) ∧ lsum X + c.length ≤ 2147483647 ∧ X.getD m [] = [] ∧ Fit X n) := ⟨hm, hgt, hc, hsum, h0, h.fit⟩
  have hmb : m ≤ 1073741824 := by have := h.fit.num; omega
  have hn := h.fit.hn
  clear h hr hcell hm h0 hgt hc hsum hX0
  go_enter Tryd.func51, Tryd.ntmps51
  go_wp2
  go_loopg [12] c.length (fun g j' wr => ∃ (j : Nat) (u : Value), j + g = c.length ∧ j' = .int .i64 j ∧ En6 w0 w wr b s u n (X.set m (c.take j)) Q)
  case atStart => exact ⟨0, s.P, by omega, rfl, by rw [HX0.out]; exact HS0.out⟩
  case round =>
    obtain ⟨j, u, hj, rfl, hen⟩ := hrel
    have HJ : Hid (j + gk = c.length) := hj
    have HEn : Hid (En6 w0 w wr b s u n (X.set m (c.take j)) Q) := hen
    clear hj hen
    by_cases hlt : j < c.length
    · obtain ⟨bb, off, rfl, kc⟩ := HC.out wr j HEn.out.ce.bel hlt
      have hlf := HX.out.2.2.1 _ (getD_mem' (d := 0) hlt)
      have HUp : Hid ((X.set m (c.take j)).set m ((X.set m (c.take j)).getD m [] ++ [c.getD j 0]) = X.set m (c.take (j + 1))) := upto hlt HX.out.1
      have hmX : m < (X.set m (c.take j)).length := by rw [List.length_set]; exact HX.out.1
      have hgtX : ∀ k, m < k → (X.set m (c.take j)).getD k [] = [] := fun k hk => by rw [getD_set_ne (by omega)]; exact HX.out.2.1 k hk
      have hgm : (X.set m (c.take j)).getD m [] = c.take j := getD_set_self HX.out.1
      have hlsX : lsum (X.set m (c.take j)) = lsum X + j := by
        have := lsum_set (c := c.take j) HX.out.1
        rw [HX.out.2.2.2.2.1, List.length_take, Nat.min_eq_left (by omega)] at this
        simpa using this
      have hlenX : ((X.set m (c.take j)).getD m []).length + 1 ≤ 1073741824 := by rw [hgm, List.length_take]; omega
      have hsumX : lsum (X.set m (c.take j)) + 1 ≤ 2147483647 := by have := HX.out.2.2.2.1; omega
      generalize X.set m (c.take j) = Y at *
      generalize c.getD j 0 = l at *
      have HLT : Hid (j < c.length) := hlt
      obtain ⟨i, hi⟩ : ∃ i : Nat, idx l = i := ⟨(idx l).toNat, by have := idx_range hlf.1; omega⟩
      have hin : i < n := by omega
      obtain ⟨F, P, hz, hp, hP⟩ := HEn.out.ce.z
      obtain ⟨p, hpi⟩ : ∃ p, F[i]? = some p := ⟨_, List.getElem?_eq_getElem (by rw [hp.len]; exact hin)⟩
      have hseen := hp.seen hmX hgtX hlf.1 hi hpi
      have hplt := (hp.ch i p hpi).1
      obtain ⟨gF, cF, eF0, f1, f2, f3⟩ := row_some hz.f (by omega)
      have eF : s.F = .slice (some ⟨gF, 0, none⟩) n cF := eF0
      clear eF0
      have b3 : wr.cell? ⟨b, 3, none⟩ = some s.F := hz.c3
      have rF : wr.ownsRow w0.heap.size 21 1 s.F n (i32s (F.map fun (x : Nat) => (x : Int))) := hz.f
      rw [eF] at b3 rF
      have kF := row_cell rF (j := i) (x := .int .i32 (p : Int)) (by unfold i32s; rw [List.getElem?_map, List.getElem?_map, hpi]; rfl)
      have zF := row_fz rF i
      obtain ⟨gP, cP, eP0, p1, p2, p3⟩ := row_some hz.p (by have := hp.pos; omega)
      have eP : u = .slice (some ⟨gP, 0, none⟩) P.length cP := eP0
      clear eP0
      have b4 : wr.cell? ⟨b, 4, none⟩ = some u := hz.c4
      have rP : wr.ownsRow w0.heap.size 88 2 u P.length (twp P) := hz.p
      rw [eP] at b4 rP
      have hPb : P.length ≤ 2147483647 := by omega
      have HI : Hid (idx l = i) := hi
      by_cases hsn : l ∈ Y.getD m []
      · obtain ⟨q, hp0, hPp⟩ := hseen.1 hsn
        have kP := row_cell rP (twp_at hPp).1
        have HF : Hid (En6 w0 w wr b s u n (X.set m (c.take (j + 1))) Q) := ⟨by rw [← HUp.out]; exact HEn.out.ce.same hmX hsn hlenX hlf, HEn.out.mo⟩
        have hmm : ((m : Int) == (m : Int)) = true := by simp
        clear hz hp hP hseen rF rP hsn hPp hlf eP eF hi hgm hgtX hlsX hlenX hsumX hmX hpi
        generalize P.length = Pn at *
        go_wp2_with fail
        refine (index_any _ _).mono ?_
        rintro e w9 ⟨rfl, hw9⟩
        obtain rfl : wr = w9 := hw9.symm
        rw [HI.out]
        clear hw9
        go_wp2
        go_roundg (gk - 1)
        case measure => have := HJ.out; have := HLT.out; omega
        case rel => exact ⟨j + 1, u, by have := HJ.out; have := HLT.out; omega, by go_num, HF.out⟩
      · have hno : ¬ ∃ q, 0 < p ∧ P[p]? = some (m, q) := fun h2 => hsn (hseen.2 h2)
        have HZ : Hid (Cz w0.heap.size wr b { s with P := u } n Y.length (inLs n []) (lefts Y []) F P Q [] ∧ Pls Y n F P ∧ P.length ≤ lsum Y + 1) := ⟨hz, hp, hP⟩
        have HY : Hid (m < Y.length ∧ (∀ k, m < k → Y.getD k [] = []) ∧ l ∉ Y.getD m [] ∧ fmd l = true ∧ idx l < n ∧ (Y.getD m []).length + 1 ≤ 1073741824 ∧ F[i]? = some p ∧ lsum Y + 1 ≤ 2147483647) := ⟨hmX, hgtX, hsn, hlf.1, hlf.2, hlenX, hpi, hsumX⟩
        have HEF : Hid (s.F = .slice (some ⟨gF, 0, none⟩) n cF) := eF
        have HEP : Hid (u = .slice (some ⟨gP, 0, none⟩) P.length cP) := eP
        obtain ⟨i0, hi0, hz0, hz1, hz2⟩ := info_parts Tryd.infoPlace
        have HInf : Hid (Tryd.prog.info? 88 = some i0 ∧ i0.zero = some (.agg #[.int .i32 0, .int .i32 0]) ∧ i0.size = 2 ∧ i0.bytes = 8) := ⟨hi0, hz0, hz1, hz2⟩
        have HFz : Hid (∀ W, Below wr.heap.size wr W → W.frozen? ⟨b, 4, none⟩ = false) := fun W hW => (hz.below hW).fz 4
        have z4 := hz.fz 4
        have b4a : (wr.alloc (.cells #[.int .i32 (m : Int), .int .i32 (p : Int)] 88)).cell? ⟨b, 4, none⟩ = some (.slice (some ⟨gP, 0, none⟩) P.length cP) := (World.cell?_alloc_lt _ _ _ (World.block_lt_of_cell? wr _ b4)).trans b4
        -- what the append gives
        have HApp : Hid (∀ v8 w8, w8.ownsRow w0.heap.size 88 2 v8 (P.length + 1) (twp P ++ [.int .i32 (m : Int), .int .i32 (p : Int)]) → Ap (wr.alloc (.cells #[.int .i32 (m : Int), .int .i32 (p : Int)] 88)).drew (.slice (some ⟨gP, 0, none⟩) P.length cP) w8 v8 →
            (∃ a8 c8, v8 = .slice a8 (P.length + 1) c8) ∧ w8.cell? ⟨b, 4, none⟩ = some (.slice (some ⟨gP, 0, none⟩) P.length cP) ∧ w8.frozen? ⟨b, 4, none⟩ = false ∧
            Cz w0.heap.size (w8.setCell ⟨b, 4, none⟩ v8) b { s with P := v8 } n Y.length (inLs n []) (lefts Y []) F (P ++ [(m, p)]) Q [] ∧ Mo w (s.own b) (w8.setCell ⟨b, 4, none⟩ v8) (({ s with P := v8 } : Sz).own b)) := fun v8 w8 own8 ap8 => by
          have bb : Below wr.heap.size wr (wr.alloc (.cells #[.int .i32 (m : Int), .int .i32 (p : Int)] 88)).drew := (below_box _ _).drew
          have hzA := hz.below bb
          have own9 : w8.ownsRow w0.heap.size 88 2 v8 (P ++ [(m, p)]).length (twp (P ++ [(m, p)])) := by
            rw [twp_snoc, List.length_append]; exact own8
          have ap9 : Ap (wr.alloc (.cells #[.int .i32 (m : Int), .int .i32 (p : Int)] 88)).drew u w8 v8 := by rw [eP]; exact ap8
          obtain ⟨z9, m9⟩ := hzA.putP ap9.grown ap9.new own9
          have ht : ∀ x, u.ownBlock = some x → Ty _ x 88 := fun x e => row_ty hzA.p e.symm
          have hbx := box_other hzA.box ap9.grown ht (by decide)
          exact ⟨row_form' own8, by simp [World.cell?, hbx]; exact eP, by simp [World.frozen?, hbx], z9, (HEn.out.mo.trans (Mo.below bb)).trans m9⟩
        have HRow : Hid ((wr.alloc (.cells #[.int .i32 (m : Int), .int .i32 (p : Int)] 88)).drew.ownsRow w0.heap.size 88 2 (.slice (some ⟨gP, 0, none⟩) P.length cP) P.length (twp P) ∧ w0.heap.size ≤ (wr.alloc (.cells #[.int .i32 (m : Int), .int .i32 (p : Int)] 88)).drew.heap.size) := by
          have bb : Below wr.heap.size wr (wr.alloc (.cells #[.int .i32 (m : Int), .int .i32 (p : Int)] 88)).drew := (below_box _ _).drew
          have := (hz.below bb).p
          rw [← eP]
          exact ⟨this, Nat.le_trans HEn.out.ce.bel.size bb.size⟩
        have HNew : Hid (∀ j x, [Value.int .i32 (m : Int), Value.int .i32 (p : Int)][j]? = some x → (wr.alloc (.cells #[.int .i32 (m : Int), .int .i32 (p : Int)] 88)).drew.cell? ((⟨wr.heap.size, 0, none⟩ : Addr).add j) = some x) := fun j x hx => by
          rw [Addr.add_lit]
          have hh : (wr.alloc (.cells #[.int .i32 (m : Int), .int .i32 (p : Int)] 88)).drew.heap[wr.heap.size]? = _ := World.alloc_heap_new wr (.cells #[.int .i32 (m : Int), .int .i32 (p : Int)] 88)
          show (match (wr.alloc (.cells #[.int .i32 (m : Int), .int .i32 (p : Int)] 88)).drew.heap[wr.heap.size]? with | some (Obj.cells c elem frozen) => c[0 + j]? | x => none) = _
          rw [hh]
          simpa using hx
        have hl63 : P.length + 1 ≤ maxLen := by unfold maxLen; omega
        have hl48 : (P.length + 1) * 8 ≤ 140737488355328 := by omega
        have hpc : p = 0 ∨ 0 < p := by omega
        have HPk : Hid (0 < p → ∃ k : Nat, wr.cell? ⟨gP, p * 2, none⟩ = some (.int .i32 (k : Int)) ∧ k ≠ m ∧ k ≤ 1073741824) := fun h0 => by
          obtain ⟨⟨k, q⟩, hkq⟩ : ∃ x, P[p]? = some x := ⟨_, List.getElem?_eq_getElem hplt⟩
          refine ⟨k, row_cell rP (twp_at hkq).1, fun e => hno ⟨q, h0, by rw [hkq, e]⟩, ?_⟩
          have h2 := (hp.num p k q h0 hkq).1
          have h3 := HEn.out.ce.fit.num
          omega
        have HPn : Hid (P.length ≤ 2147483647) := hPb
        clear hz hp hP hseen rF rP hsn hlf eP eF hi hgm hgtX hlsX hlenX hsumX hmX hpi hno hi0 hz0 hz1 hz2
        generalize hPl : P.length = Pn at *
        have HPl : Hid (P.length = Pn) := hPl
        clear hPl
        generalize htw : twp P = tw at *
        clear htw
        go_wp2_with fail
        refine (index_any _ _).mono ?_
        rintro e w9 ⟨rfl, hw9⟩
        obtain rfl : wr = w9 := hw9.symm
        rw [HI.out]
        clear hw9
        rcases hpc with hpc | hpc
        · have hp0 : ¬ 0 < p := by omega
          clear hpc
          go_upto_region 6 with fail
          go_cut [] from 39 to 56 (fun wx => ∃ u2, Cz w0.heap.size wx b { s with P := u2 } n Y.length (inLs n []) (lefts Y []) F (P ++ [(m, p)]) Q [] ∧ Mo w (s.own b) wx (({ s with P := u2 } : Sz).own b))
          case first =>
            go_region_law (refine step_append_apk rfl (.tmp 43) (.tmp 53) 67 rfl w0.heap.size 88 i0 (.agg #[.int .i32 0, .int .i32 0]) 2 8 Tryd.underlying67 HInf.out.1 HInf.out.2.1 HInf.out.2.2.1 HInf.out.2.2.2 rfl (by decide) (.slice (some ⟨gP, 0, none⟩) Pn cP) Pn tw (by simp [Act.eval, Act.put]) HRow.out.1 ⟨wr.heap.size, 0, none⟩ 1 1 [.int .i32 (m : Int), .int .i32 (p : Int)] (by simp [Act.eval, Act.put]) rfl HNew.out (by simp [Value.oneCell']) hl63 hl48 HRow.out.2 ?_; intro v8 w8 own8 ap8; have HF8 : Hid (_ ∧ _) := (HApp.out v8 w8 own8 ap8).2.2.2; obtain ⟨⟨a8, c8, hv8⟩, q1, q2, -⟩ := HApp.out v8 w8 own8 ap8; subst hv8; clear own8 ap8)
            all_goals
              go_wp2_with fail
              go_meet
              exact ⟨_, HF8.out.1, HF8.out.2⟩
          case rest =>
          obtain ⟨u2, hz8, hm8⟩ := hcut
          clear HApp HRow HNew z4 b3 b4 b4a kF zF HFz kc
          generalize wc = w8 at *
          obtain ⟨z9, m9⟩ := hz8.setF HEF.out hin Pn
          have b3 : w8.cell? ⟨b, 3, none⟩ = some s.F := hz8.c3
          have rF : w8.ownsRow w0.heap.size 21 1 s.F n (i32s (F.map fun (x : Nat) => (x : Int))) := hz8.f
          rw [HEF.out] at b3 rF
          have kF := row_cell rF (j := i) (x := .int .i32 (p : Int)) (by unfold i32s; rw [List.getElem?_map, List.getElem?_map, HY.out.2.2.2.2.2.2.1]; rfl)
          have zF := row_fz rF i
          obtain ⟨a4, c4, e4⟩ := row_form' hz8.p
          have e4 : u2 = .slice a4 (Pn + 1) c4 := by rw [← HPl.out]; simpa using e4
          have b4 : w8.cell? ⟨b, 4, none⟩ = some u2 := hz8.c4
          rw [e4] at b4
          have HZ9 : Hid (Cz w0.heap.size (w8.setCell ⟨gF, i, none⟩ (.int .i32 (Pn : Int))) b { s with P := u2 } n Y.length (inLs n []) (lefts Y []) (F.set i Pn) (P ++ [(m, p)]) Q [] ∧ Mo w (s.own b) (w8.setCell ⟨gF, i, none⟩ (.int .i32 (Pn : Int))) (({ s with P := u2 } : Sz).own b)) := ⟨z9, hm8.trans m9⟩
          have hwp : IntKind.i32.wrap (Pn : Int) = (Pn : Int) := by rw [wrap_i32']; omega
          have hwp2 : IntKind.i64.wrap (Pn : Int) = (Pn : Int) := by rw [IntKind.wrap_i64]; omega
          have HE4 : Hid (u2 = .slice a4 (Pn + 1) c4) := e4
          clear hz8 hm8 z9 m9 rF e4
          go_upto_region 7 with fail
          go_cut [] from 57 to 69 (fun wx => Cz w0.heap.size wx b { s with P := u2 } n Y.length (inLs n []) (lefts Y []) (F.set i Pn) (P ++ [(m, p)]) Q [] ∧ Mo w (s.own b) wx (({ s with P := u2 } : Sz).own b))
          case first =>
            go_region_law (fail)
            all_goals
              have HQ : Hid (_ ∧ _) := ⟨HZ9.out.1.below (Below.refl _ _).drew, HZ9.out.2.trans (Mo.below (Below.refl _ _).drew)⟩
              go_wp2_with fail
              go_meet
              exact ⟨HQ.out.1, HQ.out.2⟩
          case rest =>
          obtain ⟨hzA, hmA⟩ := hcut
          clear HZ9 b3 b4 kF zF
          generalize wc = w9 at *
          obtain ⟨gE, cE, eE0, e1, e2, e3⟩ := row_some hzA.e (by have := HY.out.1; omega)
          have eE : s.E = .slice (some ⟨gE, 0, none⟩) Y.length cE := eE0
          clear eE0
          have b2 : w9.cell? ⟨b, 2, none⟩ = some s.E := hzA.c2
          have rE : w9.ownsRow w0.heap.size 21 1 s.E Y.length (i32s (lefts Y [])) := hzA.e
          rw [eE] at b2 rE
          have kE := row_cell rE (j := m) (x := .int .i32 (cnt [] (Y.getD m []) : Int)) (by unfold i32s; rw [List.getElem?_map, lefts_at HY.out.1]; rfl)
          have zE := row_fz rE m
          obtain ⟨zB, mB⟩ := hzA.setE eE HY.out.1 ((cnt [] (Y.getD m []) : Int) + 1)
          have hcb : cnt [] (Y.getD m []) ≤ 1073741824 := Nat.le_trans (cnt_le _ _) (by have := HY.out.2.2.2.2.2.1; omega)
          have hmY := HY.out.1
          have HFin : Hid (En6 w0 w (w9.setCell ⟨gE, m, none⟩ (.int .i32 ((cnt [] (Y.getD m []) : Int) + 1))) b s u2 n (X.set m (c.take (j + 1))) Q) := by
            refine ⟨?_, hmA.trans mB⟩
            rw [← HUp.out]
            have hpl := HZ.out.2.1.add hn HY.out.1 HY.out.2.2.1 HY.out.2.1 HY.out.2.2.2.1 HI.out HY.out.2.2.2.2.2.2.1
            rw [HPl.out] at hpl
            refine ⟨Mo.bel HB0.out.1 HB0.out.2 (hmA.trans mB), HEn.out.ce.fit.set (by simpa using HY.out.2.2.2.2.2.1) (fun x hx => ?_), F.set i Pn, P ++ [(m, p)], ?_, hpl, ?_⟩
            · rcases List.mem_append.1 hx with a | a
              · exact HEn.out.ce.fit.lit _ (getD_in HY.out.1) x a
              · rw [show x = l by simpa using a]; exact ⟨HY.out.2.2.2.1, HY.out.2.2.2.2.1⟩
            · rw [List.length_set, lefts_set, cnt_more, if_neg HY.out.2.2.1]
              have e5 : (((cnt [] (Y.getD m []) + 1 : Nat)) : Int) = (cnt [] (Y.getD m []) : Int) + 1 := by omega
              rw [e5]
              exact zB
            · have h5 := lsum_set (c := Y.getD m [] ++ [l]) HY.out.1
              rw [List.length_append, List.length_singleton] at h5
              have h6 := HZ.out.2.2
              rw [List.length_append, List.length_singleton, HPl.out]
              omega
          clear hzA hmA zB mB rE eE HZ HUp HEn HY
          generalize cnt [] (Y.getD m []) = cm at *
          have hwc : IntKind.i32.wrap ((cm : Int) + 1) = (cm : Int) + 1 := by rw [wrap_i32']; omega
          generalize Y.length = YN at *
          go_wp2
          go_roundg (gk - 1)
          case measure => have := HJ.out; have := HLT.out; omega
          case rel => exact ⟨j + 1, u2, by have := HJ.out; have := HLT.out; omega, by go_num, HFin.out⟩
        · obtain ⟨k, kP, hkm, hkb⟩ := HPk.out hpc
          have hkm2 : ((k : Int) == (m : Int)) = false := by simp; omega
          go_upto_region 6 with fail
          go_cut [] from 39 to 56 (fun wx => ∃ u2, Cz w0.heap.size wx b { s with P := u2 } n Y.length (inLs n []) (lefts Y []) F (P ++ [(m, p)]) Q [] ∧ Mo w (s.own b) wx (({ s with P := u2 } : Sz).own b))
          case first =>
            go_region_law (refine step_append_apk rfl (.tmp 43) (.tmp 53) 67 rfl w0.heap.size 88 i0 (.agg #[.int .i32 0, .int .i32 0]) 2 8 Tryd.underlying67 HInf.out.1 HInf.out.2.1 HInf.out.2.2.1 HInf.out.2.2.2 rfl (by decide) (.slice (some ⟨gP, 0, none⟩) Pn cP) Pn tw (by simp [Act.eval, Act.put]) HRow.out.1 ⟨wr.heap.size, 0, none⟩ 1 1 [.int .i32 (m : Int), .int .i32 (p : Int)] (by simp [Act.eval, Act.put]) rfl HNew.out (by simp [Value.oneCell']) hl63 hl48 HRow.out.2 ?_; intro v8 w8 own8 ap8; have HF8 : Hid (_ ∧ _) := (HApp.out v8 w8 own8 ap8).2.2.2; obtain ⟨⟨a8, c8, hv8⟩, q1, q2, -⟩ := HApp.out v8 w8 own8 ap8; subst hv8; clear own8 ap8)
            all_goals
              go_wp2_with fail
              go_meet
              exact ⟨_, HF8.out.1, HF8.out.2⟩
          case rest =>
          obtain ⟨u2, hz8, hm8⟩ := hcut
          clear HApp HRow HNew z4 b3 b4 b4a kF zF HFz kc
          generalize wc = w8 at *
          obtain ⟨z9, m9⟩ := hz8.setF HEF.out hin Pn
          have b3 : w8.cell? ⟨b, 3, none⟩ = some s.F := hz8.c3
          have rF : w8.ownsRow w0.heap.size 21 1 s.F n (i32s (F.map fun (x : Nat) => (x : Int))) := hz8.f
          rw [HEF.out] at b3 rF
          have kF := row_cell rF (j := i) (x := .int .i32 (p : Int)) (by unfold i32s; rw [List.getElem?_map, List.getElem?_map, HY.out.2.2.2.2.2.2.1]; rfl)
          have zF := row_fz rF i
          obtain ⟨a4, c4, e4⟩ := row_form' hz8.p
          have e4 : u2 = .slice a4 (Pn + 1) c4 := by rw [← HPl.out]; simpa using e4
          have b4 : w8.cell? ⟨b, 4, none⟩ = some u2 := hz8.c4
          rw [e4] at b4
          have HZ9 : Hid (Cz w0.heap.size (w8.setCell ⟨gF, i, none⟩ (.int .i32 (Pn : Int))) b { s with P := u2 } n Y.length (inLs n []) (lefts Y []) (F.set i Pn) (P ++ [(m, p)]) Q [] ∧ Mo w (s.own b) (w8.setCell ⟨gF, i, none⟩ (.int .i32 (Pn : Int))) (({ s with P := u2 } : Sz).own b)) := ⟨z9, hm8.trans m9⟩
          have hwp : IntKind.i32.wrap (Pn : Int) = (Pn : Int) := by rw [wrap_i32']; omega
          have hwp2 : IntKind.i64.wrap (Pn : Int) = (Pn : Int) := by rw [IntKind.wrap_i64]; omega
          have HE4 : Hid (u2 = .slice a4 (Pn + 1) c4) := e4
          clear hz8 hm8 z9 m9 rF e4
          go_upto_region 7 with fail
          go_cut [] from 57 to 69 (fun wx => Cz w0.heap.size wx b { s with P := u2 } n Y.length (inLs n []) (lefts Y []) (F.set i Pn) (P ++ [(m, p)]) Q [] ∧ Mo w (s.own b) wx (({ s with P := u2 } : Sz).own b))
          case first =>
            go_region_law (fail)
            all_goals
              have HQ : Hid (_ ∧ _) := ⟨HZ9.out.1.below (Below.refl _ _).drew, HZ9.out.2.trans (Mo.below (Below.refl _ _).drew)⟩
              go_wp2_with fail
              go_meet
              exact ⟨HQ.out.1, HQ.out.2⟩
          case rest =>
          obtain ⟨hzA, hmA⟩ := hcut
          clear HZ9 b3 b4 kF zF
          generalize wc = w9 at *
          obtain ⟨gE, cE, eE0, e1, e2, e3⟩ := row_some hzA.e (by have := HY.out.1; omega)
          have eE : s.E = .slice (some ⟨gE, 0, none⟩) Y.length cE := eE0
          clear eE0
          have b2 : w9.cell? ⟨b, 2, none⟩ = some s.E := hzA.c2
          have rE : w9.ownsRow w0.heap.size 21 1 s.E Y.length (i32s (lefts Y [])) := hzA.e
          rw [eE] at b2 rE
          have kE := row_cell rE (j := m) (x := .int .i32 (cnt [] (Y.getD m []) : Int)) (by unfold i32s; rw [List.getElem?_map, lefts_at HY.out.1]; rfl)
          have zE := row_fz rE m
          obtain ⟨zB, mB⟩ := hzA.setE eE HY.out.1 ((cnt [] (Y.getD m []) : Int) + 1)
          have hcb : cnt [] (Y.getD m []) ≤ 1073741824 := Nat.le_trans (cnt_le _ _) (by have := HY.out.2.2.2.2.2.1; omega)
          have hmY := HY.out.1
          have HFin : Hid (En6 w0 w (w9.setCell ⟨gE, m, none⟩ (.int .i32 ((cnt [] (Y.getD m []) : Int) + 1))) b s u2 n (X.set m (c.take (j + 1))) Q) := by
            refine ⟨?_, hmA.trans mB⟩
            rw [← HUp.out]
            have hpl := HZ.out.2.1.add hn HY.out.1 HY.out.2.2.1 HY.out.2.1 HY.out.2.2.2.1 HI.out HY.out.2.2.2.2.2.2.1
            rw [HPl.out] at hpl
            refine ⟨Mo.bel HB0.out.1 HB0.out.2 (hmA.trans mB), HEn.out.ce.fit.set (by simpa using HY.out.2.2.2.2.2.1) (fun x hx => ?_), F.set i Pn, P ++ [(m, p)], ?_, hpl, ?_⟩
            · rcases List.mem_append.1 hx with a | a
              · exact HEn.out.ce.fit.lit _ (getD_in HY.out.1) x a
              · rw [show x = l by simpa using a]; exact ⟨HY.out.2.2.2.1, HY.out.2.2.2.2.1⟩
            · rw [List.length_set, lefts_set, cnt_more, if_neg HY.out.2.2.1]
              have e5 : (((cnt [] (Y.getD m []) + 1 : Nat)) : Int) = (cnt [] (Y.getD m []) : Int) + 1 := by omega
              rw [e5]
              exact zB
            · have h5 := lsum_set (c := Y.getD m [] ++ [l]) HY.out.1
              rw [List.length_append, List.length_singleton] at h5
              have h6 := HZ.out.2.2
              rw [List.length_append, List.length_singleton, HPl.out]
              omega
          clear hzA hmA zB mB rE eE HZ HUp HEn HY
          generalize cnt [] (Y.getD m []) = cm at *
          have hwc : IntKind.i32.wrap ((cm : Int) + 1) = (cm : Int) + 1 := by rw [wrap_i32']; omega
          generalize Y.length = YN at *
          go_wp2
          go_roundg (gk - 1)
          case measure => have := HJ.out; have := HLT.out; omega
          case rel => exact ⟨j + 1, u2, by have := HJ.out; have := HLT.out; omega, by go_num, HFin.out⟩
    · have hje : j = c.length := by have := HJ.out; omega
      rw [hje, List.take_length] at HEn
      clear hje
      obtain ⟨F, P, hz, hp, hP⟩ := HEn.out.ce.z
      have hmX : m < (X.set m c).length := by rw [List.length_set]; exact HX.out.1
      obtain ⟨gE, cE, eE0, e1, e2, e3⟩ := row_some hz.e (by omega)
      have eE : s.E = .slice (some ⟨gE, 0, none⟩) (X.set m c).length cE := eE0
      clear eE0
      have b2 : wr.cell? ⟨b, 2, none⟩ = some s.E := hz.c2
      have b5 : wr.cell? ⟨b, 5, none⟩ = some s.W := hz.c5
      have rE : wr.ownsRow w0.heap.size 21 1 s.E (X.set m c).length (i32s (lefts (X.set m c) [])) := hz.e
      rw [eE] at b2 rE
      have kE := row_cell rE (j := m) (x := .int .i32 (cnt [] c : Int)) (by unfold i32s; rw [List.getElem?_map, lefts_at hmX, getD_set_self HX.out.1]; rfl)
      have HWq : Hid (Wq w0.heap.size wr s.W s.L (X.set m c).length Q) := hz.w
      have hXn : (X.set m c).length ≤ 1073741824 := HEn.out.ce.fit.num
      have HPw : Hid (∀ W2 Q', Wq w0.heap.size W2 s.W s.L (X.set m c).length Q' → Mo wr (wown s.W s.L) W2 (wown s.W s.L) → En6 w0 w W2 b s u n (X.set m c) Q') := fun W2 Q' hq hm => by
        obtain ⟨z2, m2⟩ := hz.putW hq hm
        exact ⟨⟨Mo.bel HB0.out.1 HB0.out.2 (HEn.out.mo.trans m2), HEn.out.ce.fit, F, P, z2, hp, hP⟩, HEn.out.mo.trans m2⟩
      have HCn : Hid (cnt [] c = cnt [] c) := rfl
      clear hz hp hP rE eE
      by_cases hle : cnt [] c ≤ 1
      · have HLe : Hid (cnt [] c ≤ 1) := hle
        generalize hcm : cnt [] c = cm at *
        have HCm : Hid (cnt [] c = cm) := hcm
        clear hcm
        generalize (X.set m c).length = XN at *
        go_wp2_with fail
        refine (wAdd_any _ _ _ _ Q m wr HWq.out hmX (by omega)).mono ?_
        rintro e w2 ⟨rfl, hw2, hm2⟩
        have HF : Hid (En6 w0 w w2 b s u n (X.set m c) (qadd Q m)) := HPw.out _ _ hw2 hm2
        clear hw2 hm2
        go_wp2
        go_end0
        exact ⟨rfl, u, qadd Q m, HF.out, fun k => by rw [qadd_at]; exact ⟨fun h => h.elim .inl (fun e => .inr ⟨e, by rw [HCm.out]; exact HLe.out⟩), fun h => h.elim .inl (fun e => .inr e.1)⟩⟩
      · have HLe : Hid (¬ cnt [] c ≤ 1) := hle
        generalize hcm : cnt [] c = cm at *
        have HCm : Hid (cnt [] c = cm) := hcm
        clear hcm
        generalize (X.set m c).length = XN at *
        go_wp2
        go_end0
        exact ⟨rfl, u, Q, HEn.out, fun k => ⟨.inl, fun h => h.elim id (fun e => absurd e.2 (by rw [HCm.out]; exact HLe.out))⟩⟩
end Go.Proofs.YtijhabhbeambeaaDoor
set_option linter.unusedSimpArgs false
set_option linter.unusedVariables false
namespace Go.Proofs.YtijhabhbeambeaaDoor
open Go Go.RowKit

/-- the first j clauses of a formula -/
def ent (css : List (List Int)) (j : Nat) : List (List Int) := css.take j ++ List.replicate (css.length - j) []
theorem ent_zero (css : List (List Int)) : ent css 0 = List.replicate css.length [] := by simp [ent]
theorem ent_all (css : List (List Int)) : ent css css.length = css := by simp [ent]
theorem ent_len {css : List (List Int)} {j : Nat} (h : j ≤ css.length) : (ent css j).length = css.length := by simp [ent]; omega
theorem ent_gt {css : List (List Int)} {j k : Nat} (h : j < k) : (ent css j).getD k [] = [] := by
  unfold ent
  rw [List.getD_eq_getElem?_getD, List.getElem?_append_right (by rw [List.length_take]; omega), List.getElem?_replicate]
  split <;> rfl
theorem ent_at {css : List (List Int)} {j : Nat} (h : j < css.length) : (ent css j).getD j [] = [] := by
  unfold ent
  rw [List.getD_eq_getElem?_getD, List.getElem?_append_right (by rw [List.length_take]; omega), List.getElem?_replicate]
  split <;> rfl
theorem ent_set {css : List (List Int)} {j : Nat} (h : j < css.length) : (ent css j).set j (css.getD j []) = ent css (j + 1) := by
  apply List.ext_getElem?
  intro i
  by_cases e : j = i
  · subst e
    rw [List.getElem?_set_self (by rw [ent_len (by omega)]; exact h)]
    unfold ent
    rw [List.getElem?_append_left (by rw [List.length_take]; omega), List.getElem?_take_of_lt (by omega), List.getElem?_eq_getElem h, List.getD_eq_getElem?_getD, List.getElem?_eq_getElem h]; rfl
  · rw [List.getElem?_set_ne e]
    unfold ent
    by_cases hi : i < j
    · rw [List.getElem?_append_left (by rw [List.length_take]; omega), List.getElem?_append_left (by rw [List.length_take]; omega), List.getElem?_take_of_lt hi, List.getElem?_take_of_lt (by omega)]
    · rw [List.getElem?_append_right (by rw [List.length_take]; omega), List.getElem?_append_right (by rw [List.length_take]; omega), List.getElem?_replicate, List.getElem?_replicate, List.length_take, List.length_take]
      by_cases h3 : i < css.length
      · rw [if_pos (by omega), if_pos (by omega)]
      · rw [if_neg (by omega), if_neg (by omega)]
theorem lsum_append (a b : List (List Int)) : lsum (a ++ b) = lsum a + lsum b := by simp [lsum]
theorem ent_sum {css : List (List Int)} {j : Nat} (h : j < css.length) : lsum (ent css j) + (css.getD j []).length ≤ lsum css := by
  have h1 : lsum (ent css j) = lsum (css.take j) := by
    unfold ent; rw [lsum_append]
    have : lsum (List.replicate (css.length - j) []) = 0 := by simp [lsum]
    omega
  have h2 : lsum css = lsum (css.take j) + lsum (css.drop j) := by rw [← lsum_append, List.take_append_drop]
  have h3 : css.drop j = css.getD j [] :: css.drop (j + 1) := by
    rw [List.drop_eq_getElem_cons h, List.getD_eq_getElem?_getD, List.getElem?_eq_getElem h]; rfl
  have h4 : lsum (css.drop j) = (css.getD j []).length + lsum (css.drop (j + 1)) := by rw [h3]; simp [lsum]
  omega
theorem idx_lt2 {l : Int} (h : fmd l = true) : idx l < 2 * varOf l := by
  have hr := fmd_range h
  rcases (show 0 < l ∨ l < 0 by omega) with a | a
  · rw [(there_pos h a).1, (there_pos h a).2]; omega
  · rw [(there_neg h a).1, (there_neg h a).2]; omega
set_option maxRecDepth 100000 in
set_option maxHeartbeats 8000000 in
theorem uBegin_any (v : Int) (s : Value) (css : List (List Int)) (w : World) (hr : Rds w s css) (hN : css.length ≤ 1073741824) (hL : ∀ c ∈ css, c.length ≤ 1073741824) (hsz : szs css = (lsum css : Int)) (hs31 : lsum css ≤ 2147483647) (hf : ∀ c ∈ css, ∀ l ∈ c, fmd l = true) :
    Calls Tryd.prog 26 #[.agg #[.int .i64 v, s]] w fun e w' => ∃ b sz Q, e = .returned (.pointer (some ⟨b, 0, none⟩)) ∧ Cw w w' b sz (2 * (grt css).toNat) css [] Q [] ∧ sz.C = s ∧ Inv css [] Q := by
  have HR : Hid (Rds w s css) := hr
  obtain ⟨a, c, es, h1, h2, -⟩ := hr.form
  have hg := grt_range css
  obtain ⟨G, hG⟩ : ∃ G : Nat, grt css = (G : Int) := ⟨(grt css).toNat, by omega⟩
  have hGb : G ≤ 1048576 := by omega
  have HG : Hid (grt css = (G : Int)) := hG
  have HLs : Hid (∀ c ∈ css, c.length ≤ 1073741824) := hL
  have HSz : Hid (szs css = (lsum css : Int) ∧ lsum css ≤ 2147483647) := ⟨hsz, hs31⟩
  have HES : Hid (s = .slice a css.length c) := es
  clear hr hg hG hL hsz hs31 es
  go_enter Tryd.func26, Tryd.ntmps26
  go_wp2_with fail
  refine (uGreatest_any v s css _ (HR.out.below (below_box _ _)) hN HLs.out).mono ?_
  rintro e w1 ⟨rfl, bel1⟩
  rw [HG.out]
  have HB1 : Hid (Below w.heap.size w w1) := Below.step (below_box _ _) bel1
  have k0 : w1.cell? ⟨w.heap.size, 0, none⟩ = some (.int .i64 v) := (bel1.cell (p := ⟨w.heap.size, 0, none⟩) (by rw [World.size_alloc]; exact Nat.lt_succ_self _)).trans (box0 w _ _ _)
  have k1 : w1.cell? ⟨w.heap.size, 1, none⟩ = some s := (bel1.cell (p := ⟨w.heap.size, 1, none⟩) (by rw [World.size_alloc]; exact Nat.lt_succ_self _)).trans (box1 w _ _ _)
  have HR1 : Hid (Rds w1 s css) := HR.out.below HB1.out
  clear bel1
  obtain ⟨n, hn2⟩ : ∃ n : Nat, 2 * (G : Int) = (n : Int) := ⟨2 * G, by omega⟩
  have hn : n ≤ 2097152 := by omega
  have HN2 : Hid (n = 2 * G) := by show _ = _; omega
  have HRd : Hid (∀ W, Below w1.heap.size w1 W → Rds W s css) := fun W hW => HR1.out.below hW
  have HFitN : Hid (n ≤ 2097152 ∧ n % 2 = 0) := ⟨hn, by omega⟩
  have hGw : IntKind.i64.wrap (2 * (G : Int)) = (n : Int) := by rw [IntKind.wrap_i64]; omega
  go_upto_region 2 with fail
  go_cut [4] from 10 to 29 (fun p wx => ∃ b sz, p = .pointer (some ⟨b, 0, none⟩) ∧ Ce w wx b sz n (List.replicate css.length []) (fun _ => false) ∧ sz.C = s ∧ Below w1.heap.size w1 wx)
  case first =>
    have HCut : Hid (∀ (L : Nat → Bool) (W : World) (x4 x10 x11 x12 x13 x14 x15 x16 x17 x18 x19 x20 x21 x22 x23 x24 x25 x26 x27 x28 x29 : Value), (∀ j, j < 21 → L j = true) → Bg w w1 v s css.length (lsum css) n w.heap.size L W x4 x10 x11 x12 x13 x14 x15 x16 x17 x18 x19 x20 x21 x22 x23 x24 x25 x26 x27 x28 x29 → ∃ b sz, x4 = .pointer (some ⟨b, 0, none⟩) ∧ Ce w W b sz n (List.replicate css.length []) (fun _ => false) ∧ sz.C = s ∧ Below w1.heap.size w1 W) := fun L W x4 x10 x11 x12 x13 x14 x15 x16 x17 x18 x19 x20 x21 x22 x23 x24 x25 x26 x27 x28 x29 hall hB => by { obtain ⟨b, sz, h1, h2, h3⟩ := hB.fin hall HB1.out hN HFitN.out.1 HFitN.out.2 (by have := HSz.out.2; unfold maxLen; omega); exact ⟨b, sz, h1, h2, h3, hB.bel⟩ }
    have hmkI := run_make_row' (P := Tryd.prog) 56 4 (.bool false) 1 Tryd.underlying56 infoB6 rfl .i64 .i64 n (by omega) (by omega)
    have hmkE := run_make_row' (P := Tryd.prog) 66 21 (.int .i32 0) 4 Tryd.underlying66 infoI6 rfl .i64 .i64 css.length (by omega) (by omega)
    have hmkF := run_make_row' (P := Tryd.prog) 66 21 (.int .i32 0) 4 Tryd.underlying66 infoI6 rfl .i64 .i64 n (by omega) (by omega)
    have hmkP := made_place (lsum css) (by have := HSz.out.2; omega)
    have hszl : lsum css ≤ 2147483647 := HSz.out.2
    have hwsz : IntKind.i64.wrap ((lsum css : Int) + 1) = (lsum css : Int) + 1 := by rw [IntKind.wrap_i64]; omega
    refine wp_region_any (by kernel_rfl) ?_
    refine any_inv (BgI w w1 v s css.length (lsum css) n w.heap.size (.agg #[.int .i64 v, s]) (.int .i64 (G : Int)) (.int .i64 (n : Int))) (back_of (by kernel_rfl)) ?_ ?_ _ _ _ _ rfl (by decide) ⟨rfl, fun _ => false, fun j hj => by simp [Array.getD, hj], undef, undef, undef, undef, undef, undef, undef, undef, undef, undef, undef, undef, undef, undef, undef, undef, undef, undef, undef, undef, undef, rfl, ⟨(Below.refl _ _).drew, fun h => Bool.noConfusion h, fun h => Bool.noConfusion h, fun h => Bool.noConfusion h, fun h => Bool.noConfusion h, fun h => Bool.noConfusion h, fun h => Bool.noConfusion h, fun h => Bool.noConfusion h, fun h => Bool.noConfusion h, fun h => Bool.noConfusion h, fun h => Bool.noConfusion h, fun h => Bool.noConfusion h, fun h => Bool.noConfusion h, fun h => Bool.noConfusion h, fun h => Bool.noConfusion h, fun h => Bool.noConfusion h, fun h => Bool.noConfusion h, fun h => Bool.noConfusion h, fun h => Bool.noConfusion h, fun h => Bool.noConfusion h, fun h => Bool.noConfusion h, fun h => Bool.noConfusion h, fun h _ => Bool.noConfusion h, fun h => Bool.noConfusion h, fun h => Bool.noConfusion h, fun h => Bool.noConfusion h⟩⟩
    · intro listed a W i o hI ho hl hdep K hK
      obtain ⟨hsz, L, hlk, x4, x10, x11, x12, x13, x14, x15, x16, x17, x18, x19, x20, x21, x22, x23, x24, x25, x26, x27, x28, x29, rfl, hB⟩ := hI
      have hw : w.heap.size ≤ W.heap.size := Nat.le_trans HB1.out.size hB.bel.size
      have c0 : W.cell? ⟨w.heap.size, 0, none⟩ = some (.int .i64 v) := (hB.bel.cell (p := ⟨w.heap.size, 0, none⟩) (World.block_lt_of_cell? w1 _ k0)).trans k0
      have c1 : W.cell? ⟨w.heap.size, 1, none⟩ = some s := (hB.bel.cell (p := ⟨w.heap.size, 1, none⟩) (World.block_lt_of_cell? w1 _ k1)).trans k1
      have hi : i < 21 := (Array.getElem?_eq_some_iff.1 ho).1
      rcases (show i = 0 ∨ i = 1 ∨ i = 2 ∨ i = 3 ∨ i = 4 ∨ i = 5 ∨ i = 6 ∨ i = 7 ∨ i = 8 ∨ i = 9 ∨ i = 10 ∨ i = 11 ∨ i = 12 ∨ i = 13 ∨ i = 14 ∨ i = 15 ∨ i = 16 ∨ i = 17 ∨ i = 18 ∨ i = 19 ∨ i = 20 by omega) with rfl | rfl | rfl | rfl | rfl | rfl | rfl | rfl | rfl | rfl | rfl | rfl | rfl | rfl | rfl | rfl | rfl | rfl | rfl | rfl | rfl
      · obtain rfl := (Option.some.inj ho)
        have hno : L 0 = false := (hlk 0 (by decide)).symm.trans (getD_ft hsz (by decide) hl)
        obtain ⟨hs2, hl2⟩ := lnk hsz hlk (i := 0) (by decide)
        refine wpOp_step rfl fun K' hK' => ?_
        go_simp
        exact hK' _ _ (hK _ _ ⟨hs2, _, hl2, _, _, _, _, _, _, _, _, _, _, _, _, _, _, _, _, _, _, _, _, _, rfl, hB.s0 ⟩)
      · obtain rfl := (Option.some.inj ho)
        have hno : L 1 = false := (hlk 1 (by decide)).symm.trans (getD_ft hsz (by decide) hl)
        obtain ⟨hs2, hl2⟩ := lnk hsz hlk (i := 1) (by decide)
        have d0 : L 0 = true := (hlk 0 (by decide)).symm.trans (hdep ⟨0, .data⟩ (by simp) rfl)
        have ef0 := hB.f0 d0
        obtain ⟨q18, q19⟩ := hB.q18 (by simp [show L 1 = false from hno])
        subst ef0
        refine wpOp_step rfl fun K' hK' => ?_
        go_simp
        exact hK' _ _ (hK _ _ ⟨hs2, _, hl2, _, _, _, _, _, _, _, _, _, _, _, _, _, _, _, _, _, _, _, _, _, rfl, hB.s1 q18 q19⟩)
      · obtain rfl := (Option.some.inj ho)
        have hno : L 2 = false := (hlk 2 (by decide)).symm.trans (getD_ft hsz (by decide) hl)
        obtain ⟨hs2, hl2⟩ := lnk hsz hlk (i := 2) (by decide)
        refine wpOp_step rfl fun K' hK' => ?_
        go_simp
        exact hK' _ _ (hK _ _ ⟨hs2, _, hl2, _, _, _, _, _, _, _, _, _, _, _, _, _, _, _, _, _, _, _, _, _, rfl, hB.s2 ⟩)
      · obtain rfl := (Option.some.inj ho)
        have hno : L 3 = false := (hlk 3 (by decide)).symm.trans (getD_ft hsz (by decide) hl)
        obtain ⟨hs2, hl2⟩ := lnk hsz hlk (i := 3) (by decide)
        have d2 : L 2 = true := (hlk 2 (by decide)).symm.trans (hdep ⟨2, .data⟩ (by simp) rfl)
        have ef2 := hB.f2 d2
        obtain ⟨q18, q19⟩ := hB.q18 (by simp [show L 3 = false from hno])
        subst ef2
        refine wpOp_step rfl fun K' hK' => ?_
        go_simp
        exact hK' _ _ (hK _ _ ⟨hs2, _, hl2, _, _, _, _, _, _, _, _, _, _, _, _, _, _, _, _, _, _, _, _, _, rfl, hB.s3 q18 q19 hw⟩)
      · obtain rfl := (Option.some.inj ho)
        have hno : L 4 = false := (hlk 4 (by decide)).symm.trans (getD_ft hsz (by decide) hl)
        obtain ⟨hs2, hl2⟩ := lnk hsz hlk (i := 4) (by decide)
        refine wpOp_step rfl fun K' hK' => ?_
        go_simp
        exact hK' _ _ (hK _ _ ⟨hs2, _, hl2, _, _, _, _, _, _, _, _, _, _, _, _, _, _, _, _, _, _, _, _, _, rfl, hB.s4 ⟩)
      · obtain rfl := (Option.some.inj ho)
        have hno : L 5 = false := (hlk 5 (by decide)).symm.trans (getD_ft hsz (by decide) hl)
        obtain ⟨hs2, hl2⟩ := lnk hsz hlk (i := 5) (by decide)
        have d4 : L 4 = true := (hlk 4 (by decide)).symm.trans (hdep ⟨4, .data⟩ (by simp) rfl)
        have ef4 := hB.f4 d4
        subst ef4
        refine wpOp_step rfl fun K' hK' => ?_
        go_simp
        exact hK' _ _ (hK _ _ ⟨hs2, _, hl2, _, _, _, _, _, _, _, _, _, _, _, _, _, _, _, _, _, _, _, _, _, rfl, hB.s5 ⟩)
      · obtain rfl := (Option.some.inj ho)
        have hno : L 6 = false := (hlk 6 (by decide)).symm.trans (getD_ft hsz (by decide) hl)
        obtain ⟨hs2, hl2⟩ := lnk hsz hlk (i := 6) (by decide)
        have d5 : L 5 = true := (hlk 5 (by decide)).symm.trans (hdep ⟨5, .data⟩ (by simp) rfl)
        have ef5 := hB.f5 d5
        subst ef5
        refine wpOp_step rfl fun K' hK' => ?_
        have hsl := HES.out
        subst hsl
        go_simp
        exact hK' _ _ (hK _ _ ⟨hs2, _, hl2, _, _, _, _, _, _, _, _, _, _, _, _, _, _, _, _, _, _, _, _, _, rfl, hB.s6 ⟩)
      · obtain rfl := (Option.some.inj ho)
        have hno : L 7 = false := (hlk 7 (by decide)).symm.trans (getD_ft hsz (by decide) hl)
        obtain ⟨hs2, hl2⟩ := lnk hsz hlk (i := 7) (by decide)
        have d6 : L 6 = true := (hlk 6 (by decide)).symm.trans (hdep ⟨6, .data⟩ (by simp) rfl)
        have ef6 := hB.f6 d6
        obtain ⟨q18, q19⟩ := hB.q18 (by simp [show L 7 = false from hno])
        subst ef6
        refine wpOp_step rfl fun K' hK' => ?_
        go_simp
        exact hK' _ _ (hK _ _ ⟨hs2, _, hl2, _, _, _, _, _, _, _, _, _, _, _, _, _, _, _, _, _, _, _, _, _, rfl, hB.s7 q18 q19 hw⟩)
      · obtain rfl := (Option.some.inj ho)
        have hno : L 8 = false := (hlk 8 (by decide)).symm.trans (getD_ft hsz (by decide) hl)
        obtain ⟨hs2, hl2⟩ := lnk hsz hlk (i := 8) (by decide)
        refine wpOp_step rfl fun K' hK' => ?_
        go_simp
        exact hK' _ _ (hK _ _ ⟨hs2, _, hl2, _, _, _, _, _, _, _, _, _, _, _, _, _, _, _, _, _, _, _, _, _, rfl, hB.s8 ⟩)
      · obtain rfl := (Option.some.inj ho)
        have hno : L 9 = false := (hlk 9 (by decide)).symm.trans (getD_ft hsz (by decide) hl)
        obtain ⟨hs2, hl2⟩ := lnk hsz hlk (i := 9) (by decide)
        have d8 : L 8 = true := (hlk 8 (by decide)).symm.trans (hdep ⟨8, .data⟩ (by simp) rfl)
        have ef8 := hB.f8 d8
        obtain ⟨q18, q19⟩ := hB.q18 (by simp [show L 9 = false from hno])
        subst ef8
        refine wpOp_step rfl fun K' hK' => ?_
        go_simp
        exact hK' _ _ (hK _ _ ⟨hs2, _, hl2, _, _, _, _, _, _, _, _, _, _, _, _, _, _, _, _, _, _, _, _, _, rfl, hB.s9 q18 q19 hw⟩)
      · obtain rfl := (Option.some.inj ho)
        have hno : L 10 = false := (hlk 10 (by decide)).symm.trans (getD_ft hsz (by decide) hl)
        obtain ⟨hs2, hl2⟩ := lnk hsz hlk (i := 10) (by decide)
        refine wpOp_step rfl fun K' hK' => ?_
        go_simp
        exact hK' _ _ (hK _ _ ⟨hs2, _, hl2, _, _, _, _, _, _, _, _, _, _, _, _, _, _, _, _, _, _, _, _, _, rfl, hB.s10 ⟩)
      · obtain rfl := (Option.some.inj ho)
        have hno : L 11 = false := (hlk 11 (by decide)).symm.trans (getD_ft hsz (by decide) hl)
        obtain ⟨hs2, hl2⟩ := lnk hsz hlk (i := 11) (by decide)
        have d10 : L 10 = true := (hlk 10 (by decide)).symm.trans (hdep ⟨10, .data⟩ (by simp) rfl)
        have ef10 := hB.f10 d10
        subst ef10
        refine wpOp_step rfl fun K' hK' => ?_
        go_simp
        go_at_call 49
        refine (cnfSize_any v s css W (HRd.out W hB.bel)).mono ?_
        rintro e W2 ⟨rfl, bel2⟩
        rw [HSz.out.1]
        exact hK' _ _ (hK _ _ ⟨hs2, _, hl2, _, _, _, _, _, _, _, _, _, _, _, _, _, _, _, _, _, _, _, _, _, rfl, hB.s11 bel2⟩)
      · obtain rfl := (Option.some.inj ho)
        have hno : L 12 = false := (hlk 12 (by decide)).symm.trans (getD_ft hsz (by decide) hl)
        obtain ⟨hs2, hl2⟩ := lnk hsz hlk (i := 12) (by decide)
        have d11 : L 11 = true := (hlk 11 (by decide)).symm.trans (hdep ⟨11, .data⟩ (by simp) rfl)
        have ef11 := hB.f11 d11
        subst ef11
        refine wpOp_step rfl fun K' hK' => ?_
        go_simp
        exact hK' _ _ (hK _ _ ⟨hs2, _, hl2, _, _, _, _, _, _, _, _, _, _, _, _, _, _, _, _, _, _, _, _, _, rfl, hB.s12 ⟩)
      · obtain rfl := (Option.some.inj ho)
        have hno : L 13 = false := (hlk 13 (by decide)).symm.trans (getD_ft hsz (by decide) hl)
        obtain ⟨hs2, hl2⟩ := lnk hsz hlk (i := 13) (by decide)
        have d12 : L 12 = true := (hlk 12 (by decide)).symm.trans (hdep ⟨12, .data⟩ (by simp) rfl)
        have ef12 := hB.f12 d12
        obtain ⟨q18, q19⟩ := hB.q18 (by simp [show L 13 = false from hno])
        subst ef12
        refine wpOp_step rfl fun K' hK' => ?_
        go_simp
        exact hK' _ _ (hK _ _ ⟨hs2, _, hl2, _, _, _, _, _, _, _, _, _, _, _, _, _, _, _, _, _, _, _, _, _, rfl, hB.s13 q18 q19 hw⟩)
      · obtain rfl := (Option.some.inj ho)
        have hno : L 14 = false := (hlk 14 (by decide)).symm.trans (getD_ft hsz (by decide) hl)
        obtain ⟨hs2, hl2⟩ := lnk hsz hlk (i := 14) (by decide)
        refine wpOp_step rfl fun K' hK' => ?_
        go_simp
        exact hK' _ _ (hK _ _ ⟨hs2, _, hl2, _, _, _, _, _, _, _, _, _, _, _, _, _, _, _, _, _, _, _, _, _, rfl, hB.s14 ⟩)
      · obtain rfl := (Option.some.inj ho)
        have hno : L 15 = false := (hlk 15 (by decide)).symm.trans (getD_ft hsz (by decide) hl)
        obtain ⟨hs2, hl2⟩ := lnk hsz hlk (i := 15) (by decide)
        have d14 : L 14 = true := (hlk 14 (by decide)).symm.trans (hdep ⟨14, .data⟩ (by simp) rfl)
        have ef14 := hB.f14 d14
        subst ef14
        refine wpOp_step rfl fun K' hK' => ?_
        go_simp
        exact hK' _ _ (hK _ _ ⟨hs2, _, hl2, _, _, _, _, _, _, _, _, _, _, _, _, _, _, _, _, _, _, _, _, _, rfl, hB.s15 ⟩)
      · obtain rfl := (Option.some.inj ho)
        have hno : L 16 = false := (hlk 16 (by decide)).symm.trans (getD_ft hsz (by decide) hl)
        obtain ⟨hs2, hl2⟩ := lnk hsz hlk (i := 16) (by decide)
        have d15 : L 15 = true := (hlk 15 (by decide)).symm.trans (hdep ⟨15, .data⟩ (by simp) rfl)
        have ef15 := hB.f15 d15
        subst ef15
        refine wpOp_step rfl fun K' hK' => ?_
        have hsl := HES.out
        subst hsl
        go_simp
        exact hK' _ _ (hK _ _ ⟨hs2, _, hl2, _, _, _, _, _, _, _, _, _, _, _, _, _, _, _, _, _, _, _, _, _, rfl, hB.s16 ⟩)
      · obtain rfl := (Option.some.inj ho)
        have hno : L 17 = false := (hlk 17 (by decide)).symm.trans (getD_ft hsz (by decide) hl)
        obtain ⟨hs2, hl2⟩ := lnk hsz hlk (i := 17) (by decide)
        have d16 : L 16 = true := (hlk 16 (by decide)).symm.trans (hdep ⟨16, .data⟩ (by simp) rfl)
        have ef16 := hB.f16 d16
        obtain ⟨q18, q19⟩ := hB.q18 (by simp [show L 17 = false from hno])
        subst ef16
        refine wpOp_step rfl fun K' hK' => ?_
        go_simp
        go_at_call 50
        refine (uRoom_any css.length W hN).mono ?_
        rintro e W2 ⟨u, fs, rfl, hq, bel2⟩
        exact hK' _ _ (hK _ _ ⟨hs2, _, hl2, _, _, _, _, _, _, _, _, _, _, _, _, _, _, _, _, _, _, _, _, _, rfl, hB.s17 q18 q19 bel2 (wq_base hq hw)⟩)
      · obtain rfl := (Option.some.inj ho)
        have hno : L 18 = false := (hlk 18 (by decide)).symm.trans (getD_ft hsz (by decide) hl)
        obtain ⟨hs2, hl2⟩ := lnk hsz hlk (i := 18) (by decide)
        have d1 : L 1 = true := (hlk 1 (by decide)).symm.trans (hdep ⟨1, .data⟩ (by simp) rfl)
        have d3 : L 3 = true := (hlk 3 (by decide)).symm.trans (hdep ⟨3, .data⟩ (by simp) rfl)
        have d7 : L 7 = true := (hlk 7 (by decide)).symm.trans (hdep ⟨7, .data⟩ (by simp) rfl)
        have d9 : L 9 = true := (hlk 9 (by decide)).symm.trans (hdep ⟨9, .data⟩ (by simp) rfl)
        have d13 : L 13 = true := (hlk 13 (by decide)).symm.trans (hdep ⟨13, .data⟩ (by simp) rfl)
        have d17 : L 17 = true := (hlk 17 (by decide)).symm.trans (hdep ⟨17, .data⟩ (by simp) rfl)
        have ef1 := hB.f1 d1
        subst ef1
        have hsl := HES.out
        subst hsl
        have ef3 := hB.f3 d3
        obtain ⟨g3, ef3, -⟩ := ef3
        subst ef3
        obtain ⟨g7, ef7, -⟩ := hB.f7 d7
        subst ef7
        obtain ⟨g9, ef9, -⟩ := hB.f9 d9
        subst ef9
        obtain ⟨g13, ef13, -⟩ := hB.f13 d13
        subst ef13
        obtain ⟨fs17, Ls17, -, hw17, -⟩ := hB.f17 d17
        obtain ⟨a17, c17, ef17⟩ := row_form' hw17.row
        clear hw17
        subst ef17
        refine wpOp_step rfl fun K' hK' => ?_
        go_simp
        exact hK' _ _ (hK _ _ ⟨hs2, _, hl2, _, _, _, _, _, _, _, _, _, _, _, _, _, _, _, _, _, _, _, _, _, rfl, hB.s18 ⟨d1, d3, d7, d9, d13, d17⟩⟩)
      · obtain rfl := (Option.some.inj ho)
        have hno : L 19 = false := (hlk 19 (by decide)).symm.trans (getD_ft hsz (by decide) hl)
        obtain ⟨hs2, hl2⟩ := lnk hsz hlk (i := 19) (by decide)
        have d18 : L 18 = true := (hlk 18 (by decide)).symm.trans (hdep ⟨18, .data⟩ (by simp) rfl)
        have ef18 := hB.f18 d18
        have q20 := hB.q20 hno
        obtain ⟨d1, d3, d7, d9, d13, d17⟩ := hB.c18 d18
        have ef1 := hB.f1 d1
        subst ef1
        have hsl := HES.out
        subst hsl
        have ef3 := hB.f3 d3
        obtain ⟨g3, ef3, -⟩ := ef3
        subst ef3
        obtain ⟨g7, ef7, -⟩ := hB.f7 d7
        subst ef7
        obtain ⟨g9, ef9, -⟩ := hB.f9 d9
        subst ef9
        obtain ⟨g13, ef13, -⟩ := hB.f13 d13
        subst ef13
        obtain ⟨fs17, Ls17, -, hw17, -⟩ := hB.f17 d17
        obtain ⟨a17, c17, ef17⟩ := row_form' hw17.row
        clear hw17
        subst ef17
        subst ef18
        refine wpOp_step rfl fun K' hK' => ?_
        go_simp
        exact hK' _ _ (hK _ _ ⟨hs2, _, hl2, _, _, _, _, _, _, _, _, _, _, _, _, _, _, _, _, _, _, _, _, _, rfl, hB.s19 d18 q20 hw⟩)
      · obtain rfl := (Option.some.inj ho)
        have hno : L 20 = false := (hlk 20 (by decide)).symm.trans (getD_ft hsz (by decide) hl)
        obtain ⟨hs2, hl2⟩ := lnk hsz hlk (i := 20) (by decide)
        have d19 : L 19 = true := (hlk 19 (by decide)).symm.trans (hdep ⟨19, .data⟩ (by simp) rfl)
        refine wpOp_step rfl fun K' hK' => ?_
        go_simp
        exact hK' _ _ (hK _ _ ⟨hs2, _, hl2, _, _, _, _, _, _, _, _, _, _, _, _, _, _, _, _, _, _, _, _, _, rfl, hB.s20 d19⟩)
    · intro listed a W hI hall
      obtain ⟨hsz, L, hlk, x4, x10, x11, x12, x13, x14, x15, x16, x17, x18, x19, x20, x21, x22, x23, x24, x25, x26, x27, x28, x29, rfl, hB⟩ := hI
      have HF := HCut.out L W x4 x10 x11 x12 x13 x14 x15 x16 x17 x18 x19 x20 x21 x22 x23 x24 x25 x26 x27 x28 x29 (fun j hj => (hlk j hj).symm.trans (hall j hj)) hB
      have HF : Hid (_) := HF
      clear hB hlk hall hsz
      go_wp2_with fail
      go_meet
      exact HF.out
  case rest =>
  obtain ⟨b, sz, rfl, hce, hsC, hb1⟩ := hcut
  have HCe : Hid (Ce w wc b sz n (ent css 0) (fun _ => false) ∧ sz.C = s) := ⟨by rw [ent_zero]; exact hce, hsC⟩
  have k2 : wc.cell? ⟨w.heap.size, 1, none⟩ = some s := (hb1.cell (p := ⟨w.heap.size, 1, none⟩) (World.block_lt_of_cell? w1 _ k1)).trans k1
  have HAT : Hid (∀ (W : World) (k : Nat), Below w.heap.size w W → k < css.length → ∃ bb off u, a = some ⟨bb, off, none⟩ ∧ W.cell? ⟨bb, off + k, none⟩ = some u ∧ Rd w u (css.getD k [])) := fun W k hW hk => by
    have h9 := HR.out
    rw [HES.out] at h9
    obtain ⟨a', c', e', -, -, hAT⟩ := h9.form
    injection e' with e' _ _
    subst e'
    obtain ⟨bb, off, u, e, hc, hrd⟩ := hAT k hk
    exact ⟨bb, off, u, e, (hW.cell (p := ⟨bb, off + k, none⟩) (World.block_lt_of_cell? w _ hc)).trans hc, hrd⟩
  have HLit : Hid (∀ c ∈ css, ∀ l ∈ c, fmd l = true ∧ idx l < (n : Int)) := fun c hc l hl => by
    have h1 := (grt_range css).2.2 c hc l hl
    have h2 := hf c hc l hl
    have h3 := idx_lt2 h2
    have h4 := HG.out
    have h5 := HN2.out
    exact ⟨h2, by omega⟩
  clear hce hsC hb1 k0 k1 HR1 HRd hf hGw
  generalize wc = w2 at *
  have hsl : s = .slice a css.length c := HES.out
  rw [hsl] at k2
  clear hsl
  go_wp2
  go_loopg [33] css.length (fun g j' wr => ∃ (j : Nat) (sz : Sz) (Q' : Nat → Bool), j + g = css.length ∧ j' = .int .i64 j ∧ Ce w wr b sz n (ent css j) Q' ∧ sz.C = s ∧ ∀ k, Q' k = true ↔ k < j ∧ cnt [] (css.getD k []) ≤ 1)
  case atStart => exact ⟨0, sz, _, by omega, rfl, HCe.out.1, HCe.out.2, fun k => by simp⟩
  case round =>
    obtain ⟨j, sz, Q', hj, rfl, hce, hsC, hQ⟩ := hrel
    have HJ : Hid (j + gk = css.length) := hj
    have HCe : Hid (Ce w wr b sz n (ent css j) Q' ∧ sz.C = s ∧ ∀ k, Q' k = true ↔ k < j ∧ cnt [] (css.getD k []) ≤ 1) := ⟨hce, hsC, hQ⟩
    clear hj hce hsC hQ
    by_cases hlt : j < css.length
    · obtain ⟨bb, off, u, rfl, kc, hrd⟩ := HAT.out wr j HCe.out.1.bel hlt
      have HRd : Hid (Rd w u (css.getD j [])) := hrd
      obtain ⟨au, cu, rfl, -, -, -⟩ := hrd.form
      have HLT : Hid (j < css.length) := hlt
      have HSet : Hid ((ent css j).set j (css.getD j []) = ent css (j + 1) ∧ j < (ent css j).length ∧ (ent css j).getD j [] = [] ∧ (∀ k, j < k → (ent css j).getD k [] = []) ∧ lsum (ent css j) + (css.getD j []).length ≤ 2147483647) := ⟨ent_set hlt, by rw [ent_len (by omega)]; exact hlt, ent_at hlt, fun k hk => ent_gt hk, Nat.le_trans (ent_sum hlt) HSz.out.2⟩
      have hqj : Q' j = false := by
        cases e : Q' j
        · rfl
        · have := ((HCe.out.2.2 j).1 e).1; omega
      have hwj : IntKind.i32.wrap (j : Int) = (j : Int) := by rw [wrap_i32']; omega
      have HLj : Hid ((∀ l ∈ css.getD j [], fmd l = true ∧ idx l < (n : Int)) ∧ (css.getD j []).length ≤ 1073741824) := ⟨HLit.out _ (getD_in hlt), HLs.out _ (getD_in hlt)⟩
      clear hrd
      generalize hcj : css.getD j [] = cj at *
      have HCj : Hid (css.getD j [] = cj) := hcj
      clear hcj
      have HEnt : Hid (Calls Tryd.prog 51 #[.pointer (some ⟨b, 0, none⟩), .int .i32 (j : Int), .slice au cj.length cu] wr fun e w' => e = .returned (.tuple #[]) ∧ ∃ u Q2, Ce w w' b { sz with P := u } n (ent css (j + 1)) Q2 ∧ ∀ k, Q2 k = true ↔ k < j + 1 ∧ cnt [] (css.getD k []) ≤ 1) :=
        (uEnter_any w b sz n (ent css j) Q' j (.slice au cj.length cu) cj wr HCe.out.1 HRd.out HSet.out.2.1 HSet.out.2.2.1 HSet.out.2.2.2.1 HLj.out.1 HLj.out.2 HSet.out.2.2.2.2 hqj).mono fun e w3 hh => by
          obtain ⟨he, u3, Q3, hen, hQ3⟩ := hh
          refine ⟨he, u3, Q3, by rw [← HSet.out.1]; exact hen.ce, fun k => ?_⟩
          rw [hQ3 k, HCe.out.2.2 k]
          constructor
          · rintro (⟨h1, h2⟩ | ⟨h1, h2⟩)
            · exact ⟨by omega, h2⟩
            · subst h1; exact ⟨by omega, by rw [HCj.out]; exact h2⟩
          · rintro ⟨h1, h2⟩
            by_cases e : k = j
            · subst e; exact .inr ⟨rfl, by rw [← HCj.out]; exact h2⟩
            · exact .inl ⟨by omega, h2⟩
      have HsC : Hid (sz.C = s) := HCe.out.2.1
      clear HCe HSet HRd HLj
      go_wp2_with fail
      refine HEnt.out.mono ?_
      rintro e w3 ⟨rfl, u3, Q3, hce3, hQ3⟩
      have HF : Hid (Ce w w3 b { sz with P := u3 } n (ent css (j + 1)) Q3 ∧ sz.C = s ∧ ∀ k, Q3 k = true ↔ k < j + 1 ∧ cnt [] (css.getD k []) ≤ 1) := ⟨hce3, HsC.out, hQ3⟩
      clear hce3 hQ3 kc
      go_wp2
      go_roundg (gk - 1)
      case measure => have := HJ.out; have := HLT.out; omega
      case rel => exact ⟨j + 1, { sz with P := u3 }, Q3, by have := HJ.out; have := HLT.out; omega, by go_num, HF.out⟩
    · have hje : j = css.length := by have := HJ.out; omega
      have HF : Hid (Cw w wr b sz (2 * (grt css).toNat) css [] Q' [] ∧ sz.C = s ∧ Inv css [] Q') := by
        have h1 := HCe.out
        rw [hje, ent_all] at h1
        obtain ⟨hce, hsC, hQ⟩ := h1
        have hn3 : 2 * (grt css).toNat = n := by rw [HG.out, HN2.out]; simp
        rw [hn3]
        obtain ⟨F, P, hz, hp, hP⟩ := hce.z
        refine ⟨⟨hce.bel, hce.fit, F, P, hz, hp, by have := HSz.out.2; omega⟩, hsC, fun k hk => ?_, fun k hk hc => .inl ((hQ k).2 ⟨hk, hc⟩)⟩
        exact (hQ k).1 hk
      go_wp2
      go_ret
      exact ⟨b, sz, Q', rfl, HF.out⟩
end Go.Proofs.YtijhabhbeambeaaDoor
set_option linter.unusedSimpArgs false
set_option linter.unusedVariables false
namespace Go.Proofs.YtijhabhbeambeaaDoor
open Go Go.RowKit

theorem szs_lsum {css : List (List Int)} (h : lsum css ≤ 2147483647) : szs css = (lsum css : Int) := by
  have key : ∀ (css : List (List Int)) (a : Nat), a + lsum css ≤ 2147483647 → css.foldl (fun a c => wrap64 (a + (c.length : Int))) (a : Int) = ((a + lsum css : Nat) : Int) := by
    intro css
    induction css with
    | nil => intro a _; simp [lsum]
    | cons c r ih =>
      intro a ha
      have e1 : lsum (c :: r) = c.length + lsum r := by simp [lsum]
      rw [List.foldl_cons]
      have e2 : wrap64 ((a : Int) + (c.length : Int)) = ((a + c.length : Nat) : Int) := by unfold wrap64; omega
      rw [e2, ih (a + c.length) (by omega), e1]
      congr 1
      omega
  have := key css 0 (by omega)
  simpa [szs] using this
theorem lsum_mem {css : List (List Int)} {c : List Int} (h : c ∈ css) : c.length ≤ lsum css := by
  induction css with
  | nil => simp at h
  | cons d r ih =>
    have e : lsum (d :: r) = d.length + lsum r := by simp [lsum]
    rcases List.mem_cons.1 h with a | a
    · subst a; omega
    · have := ih a; omega
/-- a formula that is not too great -/
structure Few (css : List (List Int)) : Prop where
  num : css.length ≤ 1073741824
  len : ∀ c ∈ css, c.length ≤ 1073741824
  sum : lsum css ≤ 2147483647
theorem Few.of {css : List (List Int)} (h1 : css.length ≤ 1073741824) (h2 : lsum css ≤ 1073741824) : Few css := by
  refine ⟨h1, fun c hc => ?_, by omega⟩
  have := lsum_mem hc
  omega
def whyE (v : Int) (css : List (List Int)) (facts : List Int) : Int := if frm v css && facts.all fmd then (if adj (tid facts) then 20 else 0) else 1
theorem frm_fmd {v : Int} {css : List (List Int)} (h : frm v css = true) : ∀ c ∈ css, ∀ l ∈ c, fmd l = true := by
  intro c hc l hl
  unfold frm at h
  rw [Bool.and_eq_true] at h
  have h2 := List.all_eq_true.1 h.2 c hc
  unfold fitsP at h2
  have h3 := List.all_eq_true.1 h2 l hl
  rw [Bool.and_eq_true] at h3
  exact h3.1
theorem adj_con {facts : List Int} (hf : facts.all fmd = true) : adj (tid facts) = false ↔ Con facts := by
  have hmem : ∀ x, x ∈ tid facts ↔ x ∈ facts := fun x => by rw [mem_tid]; exact ⟨fun h => h.1, fun h => ⟨h, List.all_eq_true.1 hf x h⟩⟩
  constructor
  · intro h l h1 h2
    have hfl : fmd l = true := List.all_eq_true.1 hf l h1
    -- the positive one and its opposite stand side by side
    have key : ∀ p : Int, 0 < p → p ∈ facts → -p ∈ facts → False := by
      intro p hp a b
      have hfp : fmd p = true := List.all_eq_true.1 hf p a
      obtain ⟨i, hi, ei⟩ := List.getElem_of_mem ((hmem p).2 a)
      obtain ⟨j, hj, ej⟩ := List.getElem_of_mem ((hmem (-p)).2 b)
      have ip : idx p = 2 * p - 2 := (there_pos hfp hp).1
      have jp : idx (-p) = 2 * p - 1 := by rw [(there_neg (fmd_neg hfp) (by omega)).1]; omega
      have hr := List.pairwise_iff_getElem.1 (tid_rising facts)
      have hij : j = i + 1 := by
        rcases Nat.lt_trichotomy i j with c | c | c
        · refine Classical.byContradiction fun hne => ?_
          have h3 := hr i (i + 1) hi (by omega) (by omega)
          have h4 := hr (i + 1) j (by omega) hj (by omega)
          rw [ei] at h3; rw [ej] at h4
          omega
        · subst c; rw [ei] at ej; omega
        · have h3 := hr j i hj hi c
          rw [ei, ej] at h3; omega
      subst hij
      have : adj (tid facts) = true := adj_true hj (by
        rw [List.getD_eq_getElem?_getD, List.getElem?_eq_getElem hj, List.getD_eq_getElem?_getD, List.getElem?_eq_getElem hi]
        show (tid facts)[i + 1] = -(tid facts)[i]
        rw [ei, ej])
      rw [h] at this; cases this
    have h0 := (fmd_range hfl).1
    rcases (show 0 < l ∨ l < 0 by omega) with c | c
    · exact key l c h1 h2
    · exact key (-l) (by omega) h2 (by rw [Int.neg_neg]; exact h1)
  · intro hc
    cases h : adj (tid facts)
    · rfl
    · exfalso
      obtain ⟨j, hj, e⟩ := (adj_iff _).1 h
      have m1 : (tid facts).getD j 0 ∈ facts := (hmem _).1 (getD_mem' (by omega))
      have m2 : (tid facts).getD (j + 1) 0 ∈ facts := (hmem _).1 (getD_mem' hj)
      rw [e] at m2
      exact hc _ m1 m2

/-- what Why answers -/
structure Wy (w w' : World) (v : Int) (css : List (List Int)) (facts : List Int) (u : Value) (cs : List (Int × Nat)) (e0 : Int) : Prop where
  row : w'.ownsRow w.heap.size 78 2 u cs.length (twc cs)
  yes : whyE v css facts = 0 → Clo css facts cs e0
  no : whyE v css facts ≠ 0 → u = .slice none 0 0 ∧ cs = [] ∧ e0 = 0
  bel : Below w.heap.size w w'
theorem Few.szs {css : List (List Int)} (h : Few css) : szs css = (lsum css : Int) := szs_lsum h.sum
set_option maxRecDepth 100000 in
set_option maxHeartbeats 3200000 in
theorem uWhy_any (v : Int) (s vf : Value) (css : List (List Int)) (facts : List Int) (w : World) (hr : Rds w s css) (hf : Rd w vf facts) (hw : Few css) (hD : Deb w) :
    Calls Tryd.prog 12 #[.agg #[.int .i64 v, s], vf] w fun e w' => ∃ u cs e0, e = .returned (.tuple #[u, .int .i64 e0, .int .i64 (whyE v css facts)]) ∧ Wy w w' v css facts u cs e0 := by
  have HR : Hid (Rds w s css ∧ Rd w vf facts ∧ Few css ∧ Deb w) := ⟨hr, hf, hw, hD⟩
  have hlen := hf.len
  obtain ⟨af, cf, rfl, hl1, hl2, hcf⟩ := hf.form
  have HCf : Hid (∀ (W : World) (j : Nat), Below w.heap.size w W → j < facts.length → ∃ bb off, af = some ⟨bb, off, none⟩ ∧ W.cell? ⟨bb, off + j, none⟩ = some (.int .i64 (facts.getD j 0))) := fun W j hW hj => by
    obtain ⟨bb, off, e, hc⟩ := hcf j hj
    exact ⟨bb, off, e, (hW.cell (p := ⟨bb, off + j, none⟩) (World.block_lt_of_cell? w _ hc)).trans hc⟩
  clear hr hf hw hD hcf
  have HNo : Hid (∀ w', Below w.heap.size w w' → ∀ x : Int, whyE v css facts = x → x ≠ 0 → ∃ u cs e0, Ending.returned (.tuple #[.slice none 0 0, .int .i64 0, .int .i64 x]) = .returned (.tuple #[u, .int .i64 e0, .int .i64 (whyE v css facts)]) ∧ Wy w w' v css facts u cs e0) := fun w' hb x hx hx0 => ⟨_, [], 0, by rw [hx], ⟨World.ownsRow_nil _ _ _ _, fun h => absurd (hx.symm.trans h) hx0, fun _ => ⟨rfl, rfl, rfl⟩, hb⟩⟩
  have HB1 : Hid (Below w.heap.size w (w.alloc (.cells #[.int .i64 v, s] 24))) := below_box _ _
  go_enter Tryd.func12, Tryd.ntmps12
  go_wp2_with fail
  refine (cnfFormed_any v s css _ (HR.out.1.below (below_box _ _))).mono ?_
  rintro e w1 ⟨rfl, bel1⟩
  have HB2 : Hid (Below w.heap.size w w1) := Below.step HB1.out bel1
  have k0 : w1.cell? ⟨w.heap.size, 0, none⟩ = some (.int .i64 v) := (bel1.cell (p := ⟨w.heap.size, 0, none⟩) (by rw [World.size_alloc]; exact Nat.lt_succ_self _)).trans (box0 w _ _ _)
  have k1 : w1.cell? ⟨w.heap.size, 1, none⟩ = some s := (bel1.cell (p := ⟨w.heap.size, 1, none⟩) (by rw [World.size_alloc]; exact Nat.lt_succ_self _)).trans (box1 w _ _ _)
  clear bel1
  cases hfm : frm v css
  · have HE : Hid (whyE v css facts = 1) := by show _ = _; unfold whyE; rw [hfm]; rfl
    go_wp2
    go_ret3
    exact HNo.out _ HB2.out 1 HE.out (by decide)
  · go_wp2_with fail
    refine (sound_any _ facts w1 (HR.out.2.1.below HB2.out)).mono ?_
    rintro e w2 ⟨rfl, hw2⟩
    obtain rfl : w1 = w2 := hw2.symm
    clear hw2
    cases hsd : facts.all fmd
    · have HE : Hid (whyE v css facts = 1) := by show _ = _; unfold whyE; rw [hfm, hsd]; rfl
      go_wp2
      go_ret3
      exact HNo.out _ HB2.out 1 HE.out (by decide)
    · go_wp2_with fail
      refine (taut_any _ facts w1 (HR.out.2.1.below HB2.out)).mono ?_
      rintro e w3 ⟨rfl, bel3⟩
      have k2 : w3.cell? ⟨w.heap.size, 0, none⟩ = some (.int .i64 v) := (bel3.cell (p := ⟨w.heap.size, 0, none⟩) (World.block_lt_of_cell? w1 _ k0)).trans k0
      have k3 : w3.cell? ⟨w.heap.size, 1, none⟩ = some s := (bel3.cell (p := ⟨w.heap.size, 1, none⟩) (World.block_lt_of_cell? w1 _ k1)).trans k1
      have HB3 : Hid (Below w.heap.size w w3) := Below.step HB2.out bel3
      clear bel3 k0 k1
      cases had : adj (tid facts)
      · have HE : Hid (whyE v css facts = 0) := by show _ = _; unfold whyE; rw [hfm, hsd, had]; rfl
        have HCon : Hid (Con facts) := (adj_con hsd).1 had
        have HAll : Hid (∀ l ∈ facts, fmd l = true) := fun l hl => List.all_eq_true.1 hsd l hl
        go_wp2_with fail
        refine (uBegin_any v s css w3 (HR.out.1.below HB3.out) HR.out.2.2.1.num HR.out.2.2.1.len HR.out.2.2.1.szs HR.out.2.2.1.sum (frm_fmd hfm)).mono ?_
        rintro e w4 ⟨b, sz, Q0, rfl, hcw, hsC, hinv⟩
        have HS0 : Hid (Cw w3 w4 b sz (2 * (grt css).toNat) css (facts.take 0) Q0 [] ∧ sz.C = s ∧ Inv css (facts.take 0) Q0) := ⟨hcw, hsC, hinv⟩
        clear hcw hsC hinv k2 k3 hfm hsd had
        go_wp2
        go_loopg [24] facts.length (fun g j' wr => ∃ (j : Nat) (Q' : Nat → Bool), j + g = facts.length ∧ j' = .int .i64 j ∧ Cw w3 wr b sz (2 * (grt css).toNat) css (facts.take j) Q' [] ∧ Inv css (facts.take j) Q')
        case atStart => exact ⟨0, Q0, by omega, rfl, HS0.out.1, HS0.out.2.2⟩
        case round =>
          obtain ⟨j, Q', hj, rfl, hcw, hinv⟩ := hrel
          have HJ : Hid (j + gk = facts.length) := hj
          have HCw : Hid (Cw w3 wr b sz (2 * (grt css).toNat) css (facts.take j) Q' [] ∧ Inv css (facts.take j) Q') := ⟨hcw, hinv⟩
          clear hj hcw hinv
          by_cases hlt : j < facts.length
          · obtain ⟨bb, off, rfl, kc⟩ := HCf.out wr j (HB3.out.trans (HCw.out.1.bel.mono HB3.out.size)) hlt
            have HT : Hid (facts.take (j + 1) = facts.take j ++ [facts.getD j 0]) := take_succ_getD facts 0 j hlt
            have HFl : Hid (fmd (facts.getD j 0) = true) := HAll.out _ (getD_mem' hlt)
            have HLT : Hid (j < facts.length) := hlt
            generalize facts.getD j 0 = l at *
            go_wp2_with fail
            refine (uPut_any w3 b sz _ css (facts.take j) Q' [] l wr HCw.out.1 HFl.out).mono ?_
            rintro e w5 ⟨rfl, Q5, hc5, hn5, hm5⟩
            have HF : Hid (Cw w3 w5 b sz (2 * (grt css).toNat) css (facts.take (j + 1)) Q5 [] ∧ Inv css (facts.take (j + 1)) Q5) := by rw [HT.out]; exact ⟨hc5, HCw.out.2.put hn5⟩
            clear hc5 hn5 hm5 kc
            go_wp2
            go_roundg (gk - 1)
            case measure => have := HJ.out; have := HLT.out; omega
            case rel => exact ⟨j + 1, Q5, by have := HJ.out; have := HLT.out; omega, by go_num, HF.out.1, HF.out.2⟩
          · have hje : j = facts.length := by have := HJ.out; omega
            rw [hje, List.take_length] at HCw
            clear hje
            go_wp2_with fail
            refine (uRun_any w3 b sz _ css facts Q' [] wr HCw.out.1 (by rw [HS0.out.2.1]; exact HR.out.1.below HB3.out) HCon.out HCw.out.2 (HR.out.2.2.2.below HB3.out) (by simp)).mono ?_
            rintro e w5 ⟨e0, cs, Q5, u5, rfl, hclo, hran, -⟩
            obtain ⟨F, P, hz, -⟩ := hran.cw.z
            have b6 : w5.cell? ⟨b, 6, none⟩ = some u5 := hz.c6
            have HF : Hid (Wy w w5 v css facts u5 cs e0) := ⟨row_mono (by simpa using hz.c) HB3.out.size, fun _ => hclo, fun h => absurd HE.out h, HB3.out.trans (hran.cw.bel.mono HB3.out.size)⟩
            obtain ⟨a5, c5, e5⟩ := row_form' HF.out.row
            subst e5
            clear hz hran hclo
            go_wp2
            go_ret3
            exact ⟨_, cs, e0, by rw [HE.out]; rfl, HF.out⟩
      · have HE : Hid (whyE v css facts = 20) := by show _ = _; unfold whyE; rw [hfm, hsd, had]; rfl
        go_wp2
        go_ret3
        exact HNo.out _ HB3.out 20 HE.out (by decide)
end Go.Proofs.YtijhabhbeambeaaDoor
set_option linter.unusedSimpArgs false
set_option linter.unusedVariables false
namespace Go.Proofs.YtijhabhbeambeaaDoor
open Go Go.RowKit

def ledL (cs : List (Int × Nat)) (j : Nat) : List Int := (cs.take j).map Prod.fst ++ List.replicate (cs.length - j) 0
theorem ledL_len {cs : List (Int × Nat)} {j : Nat} (h : j ≤ cs.length) : (ledL cs j).length = cs.length := by simp [ledL]; omega
theorem ledL_all (cs : List (Int × Nat)) : ledL cs cs.length = cs.map Prod.fst := by simp [ledL]
theorem ledL_set {cs : List (Int × Nat)} {j : Nat} (h : j < cs.length) : (ledL cs j).set j (cs[j]).1 = ledL cs (j + 1) := by
  apply List.ext_getElem?
  intro i
  by_cases e : j = i
  · subst e
    rw [List.getElem?_set_self (by rw [ledL_len (by omega)]; exact h)]
    unfold ledL
    rw [List.getElem?_append_left (by simp; omega), List.getElem?_map, List.getElem?_take_of_lt (by omega), List.getElem?_eq_getElem h]; rfl
  · rw [List.getElem?_set_ne e]
    unfold ledL
    by_cases hi : i < j
    · rw [List.getElem?_append_left (by simp; omega), List.getElem?_append_left (by simp; omega), List.getElem?_map, List.getElem?_map, List.getElem?_take_of_lt hi, List.getElem?_take_of_lt (by omega)]
    · rw [List.getElem?_append_right (by simp; omega), List.getElem?_append_right (by simp; omega), List.getElem?_replicate, List.getElem?_replicate]
      simp only [List.length_map, List.length_take]
      by_cases h3 : i < cs.length
      · rw [if_pos (by omega), if_pos (by omega)]
      · rw [if_neg (by omega), if_neg (by omega)]
set_option maxRecDepth 100000 in
set_option maxHeartbeats 3200000 in
theorem uClosure_any (vf u : Value) (facts : List Int) (cs : List (Int × Nat)) (w : World) (hf : Rd w vf facts) (hr : w.ownsRow 0 78 2 u cs.length (twc cs)) (hn : cs.length ≤ 2097152) :
    Calls Tryd.prog 35 #[vf, u] w fun e w' => ∃ v', e = .returned v' ∧ Own w.heap.size w' v' (tid (facts ++ cs.map Prod.fst)) ∧ Below w.heap.size w w' := by
  have HF : Hid (Rd w vf facts) := hf
  have HR : Hid (w.ownsRow 0 78 2 u cs.length (twc cs)) := hr
  obtain ⟨au, cu, eu⟩ := row_form' hr
  have hmk := run_make_row' (P := Tryd.prog) 25 3 (.int .i64 0) 8 Tryd.underlying25 Tryd.info3 rfl .i64 .i64 cs.length (by omega) (by omega)
  have HAt : Hid (∀ (W : World) (j : Nat) (hj : j < cs.length), Below w.heap.size w W → ∃ g, au = some ⟨g, 0, none⟩ ∧ cs.length ≤ cu ∧ W.cell? ⟨g, j * 2, none⟩ = some (.int .i64 (cs[j]).1) ∧ W.cell? ⟨g, j * 2 + 1, none⟩ = some (.int .i64 ((cs[j]).2 : Int))) := fun W j hj hW => by
    have h1 := HR.out
    obtain ⟨g, c, e, h2, h3, h4⟩ := row_some h1 (by omega)
    rw [eu] at e
    injection e with e1 _ e3
    subst e1; subst e3
    rw [eu] at h1
    have hg : cs[j]? = some ((cs[j]).1, (cs[j]).2) := List.getElem?_eq_getElem hj
    obtain ⟨k1, k2⟩ := twc_at hg
    have c1 := row_cell h1 k1
    have c2 := row_cell h1 k2
    exact ⟨g, rfl, h2, (hW.cell (p := ⟨g, j * 2, none⟩) h4).trans c1, (hW.cell (p := ⟨g, j * 2 + 1, none⟩) h4).trans c2⟩
  have HL0 : Hid (Own w.heap.size (w.alloc (.cells (madeCells #[.int .i64 0] cs.length) 3)) (.slice (some ⟨w.heap.size, 0, none⟩) cs.length cs.length) (ledL cs 0)) := by
    refine ⟨by simp [ledL], .inr ⟨w.heap.size, cs.length, _, ?_, Nat.le_refl _, World.alloc_heap_new w _, by simp [ledL], by unfold maxLen; omega, by rw [made_zero6]; simp, ?_⟩⟩
    · simp [ledL]
    · rw [made_zero6]; simp [ledL]
  have HB0 : Hid (Below w.heap.size w (w.alloc (.cells (madeCells #[.int .i64 0] cs.length) 3))) := below_box _ _
  clear hf hr
  subst eu
  go_enter Tryd.func35, Tryd.ntmps35
  go_wp2
  go_loopg [13] cs.length (fun g j' wr => ∃ (j : Nat), j + g = cs.length ∧ j' = .int .i64 j ∧ Own w.heap.size wr (.slice (some ⟨w.heap.size, 0, none⟩) cs.length cs.length) (ledL cs j) ∧ Below w.heap.size w wr)
  case atStart => exact ⟨0, by omega, rfl, HL0.out, HB0.out⟩
  case round =>
    obtain ⟨j, hj, rfl, ho, hb⟩ := hrel
    have HJ : Hid (j + gk = cs.length) := hj
    have HO : Hid (Own w.heap.size wr (.slice (some ⟨w.heap.size, 0, none⟩) cs.length cs.length) (ledL cs j) ∧ Below w.heap.size w wr) := ⟨ho, hb⟩
    clear hj ho hb
    by_cases hlt : j < cs.length
    · obtain ⟨g, rfl, g1, c1, c2⟩ := HAt.out wr j hlt HO.out.2
      have HSet : Hid ((ledL cs j).set j (cs[j]).1 = ledL cs (j + 1)) := ledL_set hlt
      have HStep : Hid (∀ W l, Below wr.heap.size wr W → (ledL cs j).set j l = ledL cs (j + 1) → Own w.heap.size (W.setCell ⟨w.heap.size, j, none⟩ (.int .i64 l)) (.slice (some ⟨w.heap.size, 0, none⟩) cs.length cs.length) (ledL cs (j + 1)) ∧ Below w.heap.size w (W.setCell ⟨w.heap.size, j, none⟩ (.int .i64 l)) ∧ W.frozen? ⟨w.heap.size, j, none⟩ = false ∧ ∃ z, W.cell? ⟨w.heap.size, j, none⟩ = some (.int .i64 z)) := fun W l hW hs => by
        have h1 := HO.out.1.below hW
        have h1' : W.ownsRow w.heap.size 3 1 (.slice (some ⟨w.heap.size, 0, none⟩) cs.length cs.length) cs.length ((ledL cs j).map (Value.int .i64)) := by
          have := h1; unfold Own at this; rw [ledL_len (by omega)] at this; exact this
        have h2 := own_cell h1' (k := j) (by omega) (.int .i64 l)
        refine ⟨?_, HO.out.2.trans (hW.mono HO.out.2.size) |> fun hb => hb.grown (grown_set W _ _) hb.size (fun k e => by simp at e; omega), row_fz h1' j, ?_⟩
        · unfold Own
          rw [ledL_len (by omega), ← hs, List.map_set]
          exact h2
        · obtain ⟨z, hz⟩ : ∃ z, (ledL cs j)[j]? = some z := ⟨_, List.getElem?_eq_getElem (by rw [ledL_len (by omega)]; exact hlt)⟩
          exact ⟨z, row_cell h1' (by rw [List.getElem?_map, hz]; rfl)⟩
      have HLT : Hid (j < cs.length) := hlt
      generalize (cs[j]).1 = l at *
      generalize ((cs[j]).2 : Int) = l2 at *
      obtain ⟨hO1, hB1, hz1, z, hc1⟩ := HStep.out (wr.alloc (.cells #[.int .i64 l, .int .i64 l2] 78)) l (below_box _ _) HSet.out
      have HFin : Hid (_ ∧ _) := ⟨hO1, hB1⟩
      clear hO1 hB1 HStep HSet
      go_wp2
      go_roundg (gk - 1)
      case measure => have := HJ.out; have := HLT.out; omega
      case rel => exact ⟨j + 1, by have := HJ.out; have := HLT.out; omega, by go_num, HFin.out.1, HFin.out.2⟩
    · have hje : j = cs.length := by have := HJ.out; omega
      rw [hje, ledL_all] at HO
      clear hje
      have HRd : Hid (Rd wr (.slice (some ⟨w.heap.size, 0, none⟩) cs.length cs.length) (cs.map Prod.fst)) := HO.out.1.rd (by simp; omega)
      go_wp2_with fail
      refine (join_any sortSaid compactSaid _ _ facts (cs.map Prod.fst) wr (HF.out.below HO.out.2) HRd.out).mono ?_
      rintro e w5 ⟨v5, rfl, own5, bel5⟩
      have HFin : Hid (_ ∧ _) := ⟨own5.mono HO.out.2.size, Below.step HO.out.2 bel5⟩
      obtain ⟨a5, c5, e5⟩ := own_form own5
      subst e5
      clear own5 bel5
      go_wp2
      go_ret
      exact ⟨_, rfl, HFin.out.1, HFin.out.2⟩

def cloE (v : Int) (css : List (List Int)) (facts : List Int) : Int := if frm v css && facts.all fmd then 0 else 1
theorem frm_nz {v : Int} {css : List (List Int)} (h : frm v css = true) : Nz css := fun c hc l hl => (fmd_range (frm_fmd h c hc l hl)).1
theorem Clo.few {css : List (List Int)} {L : List Int} {cs : List (Int × Nat)} {e : Int} (h : Clo css L cs e) (hf : ∀ c ∈ css, ∀ l ∈ c, fmd l = true) : cs.length ≤ 2097152 := by
  obtain ⟨h1, h2, h3⟩ := h.1.new
  have := lits_few h1 fun x hx => by obtain ⟨c, hc, hxc⟩ := h3 x hx; exact hf c hc x hxc
  simpa using this
/-- what Close answers -/
structure Clz (w w' : World) (v : Int) (css : List (List Int)) (facts : List Int) (u : Value) (clash : Bool) (D : List Int) : Prop where
  own : Own w.heap.size w' u D
  yes : cloE v css facts = 0 → Says6 css facts clash D
  no : cloE v css facts ≠ 0 → clash = false ∧ D = []
  fmd : ∀ x ∈ D, Go.Proofs.YtijhabhbeambeaaDoor.fmd x = true
  bel : Below w.heap.size w w'
theorem clo_says {v : Int} {css : List (List Int)} {facts : List Int} {cs : List (Int × Nat)} (hf : frm v css = true) (hs : facts.all fmd = true) (hc : Con facts) (h : Clo css facts cs (-1)) : Says6 css facts false (tid (facts ++ cs.map Prod.fst)) := by
  obtain ⟨h1, h2⟩ := h.calm hc
  refine .inr ⟨rfl, h1, tid_rising _, fun x => ?_⟩
  rw [mem_tid, h2 x]
  refine ⟨fun h3 => h3.1, fun h3 => ⟨h3, ?_⟩⟩
  rcases List.mem_append.1 h3 with a | a
  · exact List.all_eq_true.1 hs x a
  · obtain ⟨c, hc, hx⟩ := h.1.new.2.2 x a
    exact frm_fmd hf c hc x hx
set_option maxRecDepth 100000 in
set_option maxHeartbeats 3200000 in
theorem uClose_any (v : Int) (s vf : Value) (css : List (List Int)) (facts : List Int) (w : World) (hr : Rds w s css) (hf : Rd w vf facts) (hw : Few css) (hD : Deb w) :
    Calls Tryd.prog 11 #[.agg #[.int .i64 v, s], vf] w fun e w' => ∃ u clash D, e = .returned (.tuple #[u, .bool clash, .int .i64 (cloE v css facts)]) ∧ Clz w w' v css facts u clash D := by
  have HR : Hid (Rds w s css ∧ Rd w vf facts ∧ Few css ∧ Deb w) := ⟨hr, hf, hw, hD⟩
  have HNil : Hid (∀ w' (b : Bool) (x : Int), Below w.heap.size w w' → cloE v css facts = x → (x = 0 → Says6 css facts b []) → (x ≠ 0 → b = false) → ∃ u clash D, Ending.returned (.tuple #[.slice none 0 0, .bool b, .int .i64 x]) = .returned (.tuple #[u, .bool clash, .int .i64 (cloE v css facts)]) ∧ Clz w w' v css facts u clash D) := fun w' b x hb hx h1 h2 => ⟨_, b, [], by rw [hx], ⟨World.ownsRow_nil _ _ _ _, fun h => h1 (hx.symm.trans h), fun h => ⟨h2 (fun e => h (hx.trans e)), rfl⟩, by simp, hb⟩⟩
  clear hr hf hw hD
  go_enter Tryd.func11, Tryd.ntmps11
  go_wp2_with fail
  refine (uWhy_any v s vf css facts _ (HR.out.1.below (below_box _ _)) (HR.out.2.1.below (below_box _ _)) HR.out.2.2.1 (HR.out.2.2.2.below (below_box _ _))).mono ?_
  rintro e w1 ⟨u, cs, e0, rfl, hwy⟩
  have HW : Hid (Wy (w.alloc (.cells #[.int .i64 v, s] 24)) w1 v css facts u cs e0) := hwy
  have HB : Hid (Below w.heap.size w w1) := Below.step (below_box _ _) hwy.bel
  obtain ⟨au, cu, eu⟩ := row_form' hwy.row
  subst eu
  clear hwy
  rcases (show (frm v css && facts.all fmd) = false ∨ (frm v css && facts.all fmd) = true by cases (frm v css && facts.all fmd) <;> simp) with hok | hok
  · have HE : Hid (whyE v css facts = 1 ∧ cloE v css facts = 1) := ⟨by unfold whyE; rw [hok]; rfl, by unfold cloE; rw [hok]; rfl⟩
    rw [HE.out.1]
    go_wp2
    go_ret3
    exact HNil.out _ false 1 HB.out HE.out.2 (fun h => absurd h (by decide)) (fun _ => rfl)
  · have HC0 : Hid (cloE v css facts = 0) := by show _ = _; unfold cloE; rw [hok]; rfl
    have hok2 : frm v css = true ∧ facts.all fmd = true := by simpa using hok
    have HOk : Hid (frm v css = true ∧ facts.all fmd = true) := hok2
    cases had : adj (tid facts)
    · have HE : Hid (whyE v css facts = 0) := by show _ = _; unfold whyE; rw [hok, had]; rfl
      have hclo := HW.out.yes HE.out
      have HClo : Hid (Clo css facts cs e0) := hclo
      have HCon : Hid (Con facts) := (adj_con hok2.2).1 had
      rw [HE.out]
      have hcases : e0 = -1 ∨ 0 ≤ e0 := by
        rcases hclo.2 with ⟨a, _⟩ | ⟨k, a, _⟩
        · exact .inl a
        · exact .inr (by omega)
      clear hclo hok hok2 had
      rcases hcases with rfl | hge
      · have HRd : Hid (Rd w1 vf facts) := HR.out.2.1.below HB.out
        go_wp2_with fail
        refine (uClosure_any vf _ facts cs w1 HRd.out (row_mono HW.out.row (Nat.zero_le _)) (HClo.out.few (frm_fmd HOk.out.1))).mono ?_
        rintro e w2 ⟨v2, rfl, own2, bel2⟩
        have HF : Hid (Clz w w2 v css facts v2 false (tid (facts ++ cs.map Prod.fst))) := ⟨own2.mono HB.out.size, fun _ => clo_says HOk.out.1 HOk.out.2 HCon.out HClo.out, fun h => absurd HC0.out h, fun x hx => tid_fmd x hx, Below.step HB.out bel2⟩
        obtain ⟨a2, c2, e2⟩ := own_form own2
        subst e2
        clear own2 bel2
        go_wp2
        go_ret3
        exact ⟨_, false, _, by rw [HC0.out]; rfl, HF.out⟩
      · have HCla : Hid (Cla css facts) := by
          obtain ⟨k, rfl⟩ : ∃ k : Nat, e0 = k := ⟨e0.toNat, by omega⟩
          exact HClo.out.clash (frm_nz HOk.out.1)
        go_wp2
        go_ret3
        exact HNil.out _ true 0 HB.out HC0.out (fun _ => .inl ⟨rfl, HCla.out, rfl⟩) (fun h => absurd rfl h)
    · have HE : Hid (whyE v css facts = 20) := by show _ = _; unfold whyE; rw [hok, had]; rfl
      have HCla : Hid (Cla css facts) := not_con_cla fun hc => by have := (adj_con hok2.2).2 hc; rw [had] at this; cases this
      rw [HE.out]
      clear hok hok2 had
      go_wp2
      go_ret3
      exact HNil.out _ true 0 HB.out HC0.out (fun _ => .inl ⟨rfl, HCla.out, rfl⟩) (fun h => absurd rfl h)
end Go.Proofs.YtijhabhbeambeaaDoor
set_option linter.unusedSimpArgs false
set_option linter.unusedVariables false
namespace Go.Proofs.YtijhabhbeambeaaDoor
open Go Go.RowKit

def awkF : List (List Int) := [[1], [-1, 2]]
theorem awk_clo : Clo awkF [] [(1, 0), (2, 1)] (-1) := by
  refine ⟨⟨⟨by decide, by decide, fun j hj => by omega⟩, by decide, ⟨by decide, by decide, fun j hj => ?_⟩, by decide, trivial⟩, .inl ⟨rfl, fun j hj => ?_⟩⟩
  · obtain rfl : j = 0 := by simpa using hj
    decide
  · rcases (show j = 0 ∨ j = 1 by have : j < 2 := hj; omega) with rfl | rfl <;> decide
theorem awk_says {clash : Bool} {D : List Int} (h : Says6 awkF [] clash D) : clash = false ∧ D = [1, 2] := by
  have h2 := clo_says (v := 2) (css := awkF) (facts := []) (cs := [(1, 0), (2, 1)]) (by decide) (by decide) (by intro l hl; simp at hl) awk_clo
  have e : tid ([] ++ [((1 : Int), 0), (2, 1)].map (Prod.fst : Int × Nat → Int)) = [1, 2] := by decide
  rw [e] at h2
  exact Says6.unique (fun _ => Iff.rfl) Iff.rfl h h2
theorem awk_few : Few awkF := Few.of (by decide) (by decide)
theorem rd_nil (w : World) : Rd w (.slice none 0 0) [] := Rd.nil w
end Go.Proofs.YtijhabhbeambeaaDoor
set_option linter.unusedSimpArgs false
set_option linter.unusedVariables false
namespace Go.Proofs.YtijhabhbeambeaaDoor
open Go Go.RowKit

def vl (L : List Int) (l : Int) : Int := if l ∈ L then 1 else if -l ∈ L then -1 else 0
def vsL (t : Nat) (L : List Int) : List Int := (List.range (t + 1)).map (fun (v : Nat) => vl L (v : Int))
theorem vsL_len (t : Nat) (L : List Int) : (vsL t L).length = t + 1 := by simp [vsL]
theorem vsL_at {t : Nat} {L : List Int} {v : Nat} (h : v ≤ t) : (vsL t L)[v]? = some (vl L (v : Int)) := by
  unfold vsL; rw [List.getElem?_map, List.getElem?_range (by omega)]; rfl
theorem vl_neg {L : List Int} (hc : Con L) (l : Int) : vl L (-l) = -vl L l := by
  unfold vl
  rw [Int.neg_neg]
  by_cases h1 : l ∈ L
  · rw [if_neg (hc l h1), if_pos h1, if_pos h1]
  · by_cases h2 : -l ∈ L
    · rw [if_pos h2, if_neg h1, if_pos h2]; rfl
    · rw [if_neg h2, if_neg h1, if_neg h1, if_neg h2]; rfl
theorem vl_range (L : List Int) (l : Int) : vl L l = 1 ∨ vl L l = -1 ∨ vl L l = 0 := by
  unfold vl
  split
  · exact .inl rfl
  · split
    · exact .inr (.inl rfl)
    · exact .inr (.inr rfl)
theorem vl_one {L : List Int} {l : Int} : vl L l = 1 ↔ l ∈ L := by
  unfold vl
  constructor
  · intro h; by_cases h1 : l ∈ L
    · exact h1
    · rw [if_neg h1] at h; split at h <;> omega
  · intro h; rw [if_pos h]
theorem vl_zero {L : List Int} {l : Int} : vl L l = 0 ↔ l ∉ L ∧ -l ∉ L := by
  unfold vl
  by_cases h1 : l ∈ L
  · rw [if_pos h1]; simp [h1]
  · rw [if_neg h1]
    by_cases h2 : -l ∈ L
    · rw [if_pos h2]; simp [h2]
    · rw [if_neg h2]; simp [h1, h2]
theorem vl_m1 {L : List Int} {l : Int} (h : vl L l = -1) : -l ∈ L ∧ l ∉ L := by
  unfold vl at h
  by_cases h1 : l ∈ L
  · rw [if_pos h1] at h; omega
  · rw [if_neg h1] at h
    by_cases h2 : -l ∈ L
    · exact ⟨h2, h1⟩
    · rw [if_neg h2] at h; omega
theorem vsL_put {t : Nat} {L : List Int} {l : Int} (h0 : l ≠ 0) (hn : -l ∉ L) (hz : (0 : Int) ∉ L) (ht : l.natAbs ≤ t) : (vsL t L).set l.natAbs (if l < 0 then -1 else 1) = vsL t (L ++ [l]) := by
  apply List.ext_getElem?
  intro v
  by_cases hv : v ≤ t
  · by_cases e : l.natAbs = v
    · rw [e, List.getElem?_set_self (by rw [vsL_len]; omega), vsL_at hv]
      congr 1
      by_cases hs : l < 0
      · rw [if_pos hs]
        have e1 : (v : Int) = -l := by omega
        rw [e1]
        unfold vl
        rw [if_neg (by rw [List.mem_append, List.mem_singleton]; rintro (a | a); exact hn a; omega), if_pos (by simp)]
      · rw [if_neg hs]
        have e1 : (v : Int) = l := by omega
        rw [e1]
        unfold vl
        rw [if_pos (by simp)]
    · rw [List.getElem?_set_ne e, vsL_at hv, vsL_at hv]
      congr 1
      have e1 : ((v : Int) ∈ L ++ [l]) = ((v : Int) ∈ L) := by rw [List.mem_append, List.mem_singleton]; simp; intro e2; omega
      have e2 : (-(v : Int) ∈ L ++ [l]) = (-(v : Int) ∈ L) := by rw [List.mem_append, List.mem_singleton]; simp; intro e2; omega
      unfold vl
      simp only [e1, e2]
  · rw [List.getElem?_eq_none (by rw [List.length_set, vsL_len]; omega), List.getElem?_eq_none (by rw [vsL_len]; omega)]

set_option maxRecDepth 100000 in
theorem rValue_any (v : Value) (t : Nat) (L : List Int) (l : Int) (w : World) (hr : Rd w v (vsL t L)) (ht : t ≤ 1048576) (hf : fmd l = true) (hc : Con L) (hl : l.natAbs ≤ t ∨ (l ∉ L ∧ -l ∉ L)) :
    Calls Tryd.prog 46 #[v, .int .i64 l] w fun e w' => e = .returned (.int .i64 (vl L l)) ∧ w' = w := by
  obtain ⟨a, c, ev, h1, h2, hcell⟩ := hr.form
  rw [vsL_len] at ev h1 hcell
  subst ev
  have hfr := fmd_range hf
  have hwl : IntKind.i64.wrap (-l) = -l := by rw [IntKind.wrap_i64]; omega
  have hrg := vl_range L l
  by_cases hs : l < 0
  · by_cases hb : l.natAbs ≤ t
    · obtain ⟨bb, off, rfl, kc⟩ := hcell l.natAbs (by omega)
      have e1 : (vsL t L).getD l.natAbs 0 = -vl L l := by
        rw [List.getD_eq_getElem?_getD, vsL_at hb]
        show vl L (l.natAbs : Int) = _
        rw [show (l.natAbs : Int) = -l by omega, vl_neg hc]
      rw [e1] at kc
      obtain ⟨m, rfl⟩ : ∃ m : Nat, l = -(m : Int) := ⟨l.natAbs, by omega⟩
      have e2 : (-(m : Int)).natAbs = m := by omega
      rw [e2] at kc hb
      have e3 : -(-(m : Int)) = (m : Int) := by omega
      generalize vl L (-(m : Int)) = x at *
      have hwx : IntKind.i64.wrap (- -x) = x := by rw [IntKind.wrap_i64]; omega
      clear hcell hr hc hl e1
      go_enter Tryd.func46, Tryd.ntmps46
      go_wp2
      go_ret
      exact ⟨ret_int (by omega), rfl⟩
    · have e0 : vl L l = 0 := vl_zero.2 (hl.resolve_left hb)
      rw [e0]
      clear hcell hr hc hl
      go_enter Tryd.func46, Tryd.ntmps46
      go_wp2
      go_ret
      exact ⟨rfl, rfl⟩
  · by_cases hb : l.natAbs ≤ t
    · obtain ⟨bb, off, rfl, kc⟩ := hcell l.natAbs (by omega)
      have e1 : (vsL t L).getD l.natAbs 0 = vl L l := by
        rw [List.getD_eq_getElem?_getD, vsL_at hb]
        show vl L (l.natAbs : Int) = _
        rw [show (l.natAbs : Int) = l by omega]
      rw [e1] at kc
      obtain ⟨m, rfl⟩ : ∃ m : Nat, l = (m : Int) := ⟨l.natAbs, by omega⟩
      have e2 : ((m : Int)).natAbs = m := by omega
      rw [e2] at kc hb
      generalize vl L (m : Int) = x at *
      clear hcell hr hc hl e1
      go_enter Tryd.func46, Tryd.ntmps46
      go_wp2
      go_ret
      exact ⟨rfl, rfl⟩
    · have e0 : vl L l = 0 := vl_zero.2 (hl.resolve_left hb)
      rw [e0]
      clear hcell hr hc hl
      go_enter Tryd.func46, Tryd.ntmps46
      go_wp2
      go_ret
      exact ⟨rfl, rfl⟩
/-- values of one's own -/
def Vz (B : Nat) (W : World) (g c t : Nat) (L : List Int) : Prop := W.ownsRow B 3 1 (.slice (some ⟨g, 0, none⟩) (t + 1) c) (t + 1) ((vsL t L).map (Value.int .i64))
theorem Vz.rd {B : Nat} {W : World} {g c t : Nat} {L : List Int} (h : Vz B W g c t L) (ht : t ≤ 1048576) : Rd W (.slice (some ⟨g, 0, none⟩) (t + 1) c) (vsL t L) := by
  have : Own B W (.slice (some ⟨g, 0, none⟩) (t + 1) c) (vsL t L) := by unfold Own; rw [vsL_len]; exact h
  exact this.rd (by rw [vsL_len]; omega)
theorem Vz.below {B : Nat} {W W' : World} {g c t : Nat} {L : List Int} (h : Vz B W g c t L) (hb : Below W.heap.size W W') : Vz B W' g c t L := row_kept h fun k hk => hb.block k (h.lt k hk.symm).2
set_option maxRecDepth 100000 in
theorem rPut_any (B g c t : Nat) (L : List Int) (l : Int) (w : World) (h : Vz B w g c t L) (ht : t ≤ 1048576) (hf : fmd l = true) (hn : -l ∉ L) (hz : (0 : Int) ∉ L) (hl : l.natAbs ≤ t) :
    Calls Tryd.prog 44 #[.slice (some ⟨g, 0, none⟩) (t + 1) c, .int .i64 l] w fun e w' => e = .returned (.tuple #[]) ∧ Vz B w' g c t (L ++ [l]) ∧ w.grownBy w' (some g) := by
  have hfr := fmd_range hf
  have hwl : IntKind.i64.wrap (-l) = -l := by rw [IntKind.wrap_i64]; omega
  obtain ⟨z0, hz0⟩ : ∃ z, (vsL t L)[l.natAbs]? = some z := ⟨_, vsL_at hl⟩
  have kc := row_cell h (j := l.natAbs) (x := .int .i64 z0) (by rw [List.getElem?_map, hz0]; rfl)
  have kz := row_fz h l.natAbs
  have hst := vsL_put hfr.1 hn hz hl
  have HS : Hid (Vz B (w.setCell ⟨g, l.natAbs, none⟩ (.int .i64 (if l < 0 then -1 else 1))) g c t (L ++ [l]) ∧ w.grownBy (w.setCell ⟨g, l.natAbs, none⟩ (.int .i64 (if l < 0 then -1 else 1))) (some g)) := by
    refine ⟨?_, grown_set w _ _⟩
    unfold Vz
    rw [← hst, List.map_set]
    exact own_cell h (by omega) _
  clear h hst hz0 hn hz
  by_cases hs : l < 0
  · rw [if_pos hs] at HS
    obtain ⟨m, rfl⟩ : ∃ m : Nat, l = -(m : Int) := ⟨l.natAbs, by omega⟩
    have e2 : (-(m : Int)).natAbs = m := by omega
    have e3 : -(-(m : Int)) = (m : Int) := by omega
    rw [e2] at kc kz hl HS
    go_enter Tryd.func44, Tryd.ntmps44
    go_wp2
    go_end0
    exact ⟨rfl, HS.out.1, HS.out.2⟩
  · rw [if_neg hs] at HS
    obtain ⟨m, rfl⟩ : ∃ m : Nat, l = (m : Int) := ⟨l.natAbs, by omega⟩
    have e2 : ((m : Int)).natAbs = m := by omega
    rw [e2] at kc kz hl HS
    go_enter Tryd.func44, Tryd.ntmps44
    go_wp2
    go_end0
    exact ⟨rfl, HS.out.1, HS.out.2⟩
set_option maxRecDepth 100000 in
theorem rGreatest_any (v : Value) (c : List Int) (a : Int) (w : World) (hr : Rd w v c) (hf : ∀ l ∈ c, fmd l = true) (h0 : 0 ≤ a) (h1 : a ≤ 1048576) :
    Calls Tryd.prog 72 #[v, .int .i64 a] w fun e w' => e = .returned (.int .i64 (mx a c)) ∧ w' = w := by
  have hl := hr.len
  obtain ⟨ad, cp, rfl, hc, hm, hcell⟩ := hr.form
  have HC : Hid (∀ k, k < c.length → ∃ b off, ad = some ⟨b, off, none⟩ ∧ w.cell? ⟨b, off + k, none⟩ = some (.int .i64 (c.getD k 0))) := hcell
  have HF : Hid (∀ l ∈ c, fmd l = true) := hf
  clear hcell hr hf
  go_enter Tryd.func72, Tryd.ntmps72
  go_wp2
  go_loopg [1, 5] c.length (fun g m' i' wr => ∃ k : Nat, k + g = c.length ∧ m' = .int .i64 (mx a (c.take k)) ∧ i' = .int .i64 k ∧ wr = w)
  case atStart => exact ⟨0, by omega, by simp [mx], rfl, rfl⟩
  case round =>
    obtain ⟨k, hk, rfl, rfl, hwr⟩ := hrel
    obtain rfl : w = wr := hwr.symm
    have HK : Hid (k + gk = c.length) := hk
    clear hwr
    by_cases hlt : k < c.length
    · obtain ⟨b, off, rfl, kc⟩ := HC.out k hlt
      have hfl := HF.out _ (getD_mem' (d := 0) hlt)
      have hmt := mx_take a c hlt
      have hm0 := mx_range (c.take k) a h0 h1
      have HLT : Hid (k < c.length) := hlt
      generalize c.getD k 0 = l at *
      have HMT : Hid (mx a (c.take (k + 1)) = max (mx a (c.take k)) (varOf l)) := hmt
      clear hmt hk
      obtain ⟨m1, m2, -, -⟩ := hm0
      generalize mx a (c.take k) = m0 at *
      have hfr := fmd_range hfl
      have hwl : IntKind.i64.wrap (-l) = -l := by rw [IntKind.wrap_i64]; omega
      have hvo : varOf l = if l < 0 then -l else l := by unfold varOf; rw [if_pos hfl]
      by_cases hs : l < 0
      · rw [if_pos hs] at hvo
        have hA : ¬ m0 < l := by omega
        by_cases hb : m0 < -l
        · have HE : Hid (max m0 (varOf l) = -l) := by show _ = _; omega
          clear hvo
          go_wp2
          go_roundg (gk - 1)
          case measure => have := HK.out; have := HLT.out; omega
          case rel => exact ⟨k + 1, by have := HK.out; have := HLT.out; omega, by rw [HMT.out, HE.out], by go_num, rfl⟩
        · have HE : Hid (max m0 (varOf l) = m0) := by show _ = _; omega
          clear hvo
          go_wp2
          go_roundg (gk - 1)
          case measure => have := HK.out; have := HLT.out; omega
          case rel => exact ⟨k + 1, by have := HK.out; have := HLT.out; omega, by rw [HMT.out, HE.out], by go_num, rfl⟩
      · rw [if_neg hs] at hvo
        by_cases hb : m0 < l
        · have hA : ¬ l < -l := by omega
          have HE : Hid (max m0 (varOf l) = l) := by show _ = _; omega
          clear hvo
          go_wp2
          go_roundg (gk - 1)
          case measure => have := HK.out; have := HLT.out; omega
          case rel => exact ⟨k + 1, by have := HK.out; have := HLT.out; omega, by rw [HMT.out, HE.out], by go_num, rfl⟩
        · have hA : ¬ m0 < -l := by omega
          have HE : Hid (max m0 (varOf l) = m0) := by show _ = _; omega
          clear hvo
          go_wp2
          go_roundg (gk - 1)
          case measure => have := HK.out; have := HLT.out; omega
          case rel => exact ⟨k + 1, by have := HK.out; have := HLT.out; omega, by rw [HMT.out, HE.out], by go_num, rfl⟩
    · have hje : k = c.length := by omega
      rw [hje, List.take_length]
      clear hje
      go_wp2
      go_ret
      exact ⟨rfl, rfl⟩
end Go.Proofs.YtijhabhbeambeaaDoor
set_option linter.unusedSimpArgs false
set_option linter.unusedVariables false
namespace Go.Proofs.YtijhabhbeambeaaDoor
open Go Go.RowKit

/-- how Stands says it -/
def StOk (L c : List Int) (k o : Int) : Prop := (kd L c = some 0 ∧ k = 2 ∧ o = 0) ∨ (∃ l, l ≠ 0 ∧ kd L c = some l ∧ k = 3 ∧ o = l) ∨ (kd L c = none ∧ (k = 0 ∨ k = 1) ∧ o = 0)
/-- a clause, as far as it was looked at -/
def Sd (L c : List Int) (j : Nat) (o : Int) : Prop := (∀ m ∈ c.take j, m ∉ L) ∧ ((o = 0 ∧ ∀ m ∈ c.take j, -m ∈ L) ∨ (o ≠ 0 ∧ o ∈ c.take j ∧ -o ∉ L ∧ ∀ m ∈ c.take j, m ≠ o → -m ∈ L))
theorem Sd.start (L c : List Int) : Sd L c 0 0 := ⟨by simp, .inl ⟨rfl, by simp⟩⟩
theorem Sd.no {L c : List Int} {j : Nat} {o : Int} (h : Sd L c j o) (hj : j < c.length) (h1 : c.getD j 0 ∉ L) (h2 : -(c.getD j 0) ∈ L) : Sd L c (j + 1) o := by
  refine ⟨fun m hm => ?_, ?_⟩
  · rcases (mem_take_more hj).1 hm with a | a
    · exact h.1 m a
    · rw [a]; exact h1
  · rcases h.2 with ⟨a, b⟩ | ⟨a, b, d, f⟩
    · refine .inl ⟨a, fun m hm => ?_⟩
      rcases (mem_take_more hj).1 hm with e | e
      · exact b m e
      · rw [e]; exact h2
    · refine .inr ⟨a, (mem_take_more hj).2 (.inl b), d, fun m hm hne => ?_⟩
      rcases (mem_take_more hj).1 hm with e | e
      · exact f m e hne
      · rw [e]; exact h2
theorem Sd.yes {L c : List Int} {j : Nat} {o : Int} (h : Sd L c j o) (hj : j < c.length) (h0 : c.getD j 0 ≠ 0) (h1 : c.getD j 0 ∉ L) (h2 : -(c.getD j 0) ∉ L) (ho : o = 0 ∨ o = c.getD j 0) : Sd L c (j + 1) (c.getD j 0) := by
  refine ⟨fun m hm => ?_, .inr ⟨h0, (mem_take_more hj).2 (.inr rfl), h2, fun m hm hne => ?_⟩⟩
  · rcases (mem_take_more hj).1 hm with a | a
    · exact h.1 m a
    · rw [a]; exact h1
  · rcases (mem_take_more hj).1 hm with e | e
    · rcases h.2 with ⟨_, b⟩ | ⟨a, _, _, f⟩
      · exact b m e
      · rcases ho with q | q
        · exact absurd q a
        · exact f m e (by rw [q]; exact hne)
    · exact absurd e hne
set_option maxRecDepth 100000 in
set_option maxHeartbeats 1000000 in
theorem rStands_any (vc v : Value) (c : List Int) (t : Nat) (L : List Int) (w : World) (hr : Rd w vc c) (hv : Rd w v (vsL t L)) (ht : t ≤ 1048576) (hf : ∀ l ∈ c, fmd l = true ∧ l.natAbs ≤ t) (hc : Con L) :
    Calls Tryd.prog 66 #[vc, v] w fun e w' => ∃ k o, e = .returned (.tuple #[.int .i64 k, .int .i64 o]) ∧ StOk L c k o ∧ w' = w := by
  have hl := hr.len
  have HV : Hid (Rd w v (vsL t L) ∧ t ≤ 1048576 ∧ Con L) := ⟨hv, ht, hc⟩
  have HF : Hid (∀ l ∈ c, fmd l = true ∧ l.natAbs ≤ t) := hf
  obtain ⟨ad, cp, rfl, hcc, hm, hcell⟩ := hr.form
  have HC : Hid (∀ k, k < c.length → ∃ b off, ad = some ⟨b, off, none⟩ ∧ w.cell? ⟨b, off + k, none⟩ = some (.int .i64 (c.getD k 0))) := hcell
  clear hcell hr hf hv hc
  go_enter Tryd.func66, Tryd.ntmps66
  go_wp2
  go_loopg [6, 7] c.length (fun g o' i' wr => ∃ (k : Nat) (o : Int), k + g = c.length ∧ o' = .int .i64 o ∧ i' = .int .i64 k ∧ Sd L c k o ∧ wr = w)
  case atStart => exact ⟨0, 0, by omega, rfl, rfl, Sd.start _ _, rfl⟩
  case round =>
    obtain ⟨k, o, hk, rfl, rfl, hsd, hwr⟩ := hrel
    obtain rfl : w = wr := hwr.symm
    have HK : Hid (k + gk = c.length) := hk
    have HSd : Hid (Sd L c k o) := hsd
    clear hwr hsd
    by_cases hlt : k < c.length
    · obtain ⟨b, off, rfl, kc⟩ := HC.out k hlt
      have hfl := HF.out _ (getD_mem' (d := 0) hlt)
      have HMem : Hid (c.getD k 0 ∈ c) := getD_mem' hlt
      have HLT : Hid (k < c.length) := hlt
      have hl0 := (fmd_range hfl.1).1
      generalize hle : c.getD k 0 = l at *
      have HLE : Hid (c.getD k 0 = l) := hle
      have HFl : Hid (fmd l = true ∧ l.natAbs ≤ t) := hfl
      clear hk hle hfl
      go_wp2_with fail
      refine (rValue_any v t L l w HV.out.1 HV.out.2.1 HFl.out.1 HV.out.2.2 (.inl HFl.out.2)).mono ?_
      rintro e w9 ⟨rfl, hw9⟩
      obtain rfl : w = w9 := hw9.symm
      clear hw9
      rcases vl_range L l with hx | hx | hx
      · have HS : Hid (StOk L c 1 0) := .inr (.inr ⟨kd_true HMem.out (vl_one.1 hx), .inr rfl, rfl⟩)
        rw [hx]
        clear hx
        go_wp2
        go_ret2
        exact ⟨_, _, rfl, HS.out, rfl⟩
      · obtain ⟨h1, h2⟩ := vl_m1 hx
        have HS : Hid (Sd L c (k + 1) o) := HSd.out.no HLT.out (by rw [HLE.out]; exact h2) (by rw [HLE.out]; exact h1)
        rw [hx]
        clear hx h1 h2
        go_wp2
        go_roundg (gk - 1)
        case measure => have := HK.out; have := HLT.out; omega
        case rel => exact ⟨k + 1, o, by have := HK.out; have := HLT.out; omega, rfl, by go_num, HS.out, rfl⟩
      · obtain ⟨h1, h2⟩ := vl_zero.1 hx
        rw [hx]
        clear hx
        by_cases ho : o = 0 ∨ o = l
        · have HS : Hid (Sd L c (k + 1) l) := by
            have := HSd.out.yes HLT.out (by rw [HLE.out]; exact hl0) (by rw [HLE.out]; exact h1) (by rw [HLE.out]; exact h2) (by rw [HLE.out]; exact ho)
            rw [HLE.out] at this
            exact this
          clear h1 h2
          rcases ho with rfl | rfl
          · go_wp2
            go_roundg (gk - 1)
            case measure => have := HK.out; have := HLT.out; omega
            case rel => exact ⟨k + 1, l, by have := HK.out; have := HLT.out; omega, rfl, by go_num, HS.out, rfl⟩
          · have hoo : (o != o) = false := by simp
            have ho1 : (o == 0) = false := by simpa using hl0
            go_wp2
            go_roundg (gk - 1)
            case measure => have := HK.out; have := HLT.out; omega
            case rel => exact ⟨k + 1, o, by have := HK.out; have := HLT.out; omega, rfl, by go_num, HS.out, rfl⟩
        · have ho1 : o ≠ 0 ∧ o ≠ l := ⟨fun e => ho (.inl e), fun e => ho (.inr e)⟩
          have HS : Hid (StOk L c 0 0) := by
            rcases HSd.out.2 with ⟨a, _⟩ | ⟨_, b, d, _⟩
            · exact absurd a ho1.1
            · exact .inr (.inr ⟨kd_two (List.mem_of_mem_take b) HMem.out ho1.2 d h2, .inl rfl, rfl⟩)
          have hb1 : (o == 0) = false := by simpa using ho1.1
          have hb2 : (o == l) = false := by simpa using ho1.2
          obtain ⟨hn0, hnl⟩ := ho1
          have hb3 : (o != 0) = true := by simpa using hn0
          have hb4 : (o != l) = true := by simpa using hnl
          clear h1 h2 ho hn0 hnl hb1 hb2
          go_wp2
          go_ret2
          exact ⟨_, _, rfl, HS.out, rfl⟩
    · have hke : k = c.length := by omega
      have hsd := HSd.out
      unfold Sd at hsd
      rw [hke, List.take_length] at hsd
      clear hke
      obtain ⟨hno, ho⟩ := hsd
      rcases ho with ⟨rfl, hall⟩ | ⟨ho0, hoc, hon, hoth⟩
      · have HS : Hid (StOk L c 2 0) := .inl ⟨kd_false hall hno, rfl, rfl⟩
        clear hno hall
        go_wp2
        go_ret2
        exact ⟨_, _, rfl, HS.out, rfl⟩
      · have HS : Hid (StOk L c 3 o) := .inr (.inl ⟨o, ho0, kd_unit hoc hon hoth hno, rfl, rfl⟩)
        have hb1 : (o == 0) = false := by simpa using ho0
        clear hno hoc hon hoth
        go_wp2
        go_ret2
        exact ⟨_, _, rfl, HS.out, rfl⟩
/-- the greatest variable of a formula and some literals -/
def topL (css : List (List Int)) (facts : List Int) : Int := css.foldl mx (mx 0 facts)
theorem top_take (css : List (List Int)) (a : Int) {j : Nat} (h : j < css.length) : (css.take (j + 1)).foldl mx a = mx ((css.take j).foldl mx a) (css.getD j []) := by
  rw [List.take_succ_eq_append_getElem h, List.foldl_append, List.getD_eq_getElem?_getD, List.getElem?_eq_getElem h]; rfl
theorem fold_range (css : List (List Int)) : ∀ a : Int, 0 ≤ a → a ≤ 1048576 → 0 ≤ css.foldl mx a ∧ css.foldl mx a ≤ 1048576 ∧ a ≤ css.foldl mx a ∧ ∀ c ∈ css, ∀ l ∈ c, varOf l ≤ css.foldl mx a := by
  induction css with
  | nil => intro a h0 h1; exact ⟨h0, h1, Int.le_refl _, by simp⟩
  | cons x r ih =>
    intro a h0 h1
    obtain ⟨b1, b2, b3, b4⟩ := mx_range x a h0 h1
    obtain ⟨a1, a2, a3, a4⟩ := ih (mx a x) b1 b2
    refine ⟨a1, a2, by simp only [List.foldl_cons]; omega, fun c hc l hl => ?_⟩
    rcases List.mem_cons.1 hc with e | e
    · subst e; have := b4 l hl; simp only [List.foldl_cons]; omega
    · exact a4 c e l hl
theorem top_range (css : List (List Int)) (facts : List Int) : 0 ≤ topL css facts ∧ topL css facts ≤ 1048576 ∧ (∀ c ∈ css, ∀ l ∈ c, varOf l ≤ topL css facts) ∧ ∀ l ∈ facts, varOf l ≤ topL css facts := by
  obtain ⟨b1, b2, b3, b4⟩ := mx_range facts 0 (by omega) (by omega)
  obtain ⟨a1, a2, a3, a4⟩ := fold_range css (mx 0 facts) b1 b2
  exact ⟨a1, a2, a4, fun l hl => by have := b4 l hl; unfold topL; omega⟩
theorem var_abs {l : Int} (h : fmd l = true) : varOf l = l.natAbs := by
  have := fmd_range h
  unfold varOf; rw [if_pos h]; split <;> omega

set_option maxRecDepth 100000 in
theorem rValues_any (n : Int) (s vf : Value) (css : List (List Int)) (facts : List Int) (w : World) (hr : Rds w s css) (hf : Rd w vf facts) (h1 : ∀ c ∈ css, ∀ l ∈ c, fmd l = true) (h2 : ∀ l ∈ facts, fmd l = true) :
    Calls Tryd.prog 65 #[.agg #[.int .i64 n, s], vf] w fun e w' => ∃ g, e = .returned (.slice (some ⟨g, 0, none⟩) ((topL css facts).toNat + 1) ((topL css facts).toNat + 1)) ∧ Vz w.heap.size w' g ((topL css facts).toNat + 1) (topL css facts).toNat [] ∧ Below w.heap.size w w' := by
  have hl := hr.len
  have HX : Hid (Bx w n s css (w.alloc (.cells #[.int .i64 n, s] 24))) := Bx.new hr _
  have HRf : Hid (Rd w vf facts) := hf
  have HF1 : Hid (∀ c ∈ css, ∀ l ∈ c, fmd l = true) := h1
  have HF2 : Hid (∀ l ∈ facts, fmd l = true) := h2
  have HT : Hid (∀ k, 0 ≤ (css.take k).foldl mx (mx 0 facts) ∧ (css.take k).foldl mx (mx 0 facts) ≤ 1048576) := fun k => by
    obtain ⟨b1, b2, _, _⟩ := mx_range facts 0 (by omega) (by omega)
    obtain ⟨a1, a2, _, _⟩ := fold_range (css.take k) _ b1 b2
    exact ⟨a1, a2⟩
  obtain ⟨a, c, rfl, h3, h4, -⟩ := hr.form
  have HB : Hid (Below w.heap.size w (w.alloc (.cells #[.int .i64 n, .slice a css.length c] 24))) := below_box _ _
  clear hr hf h1 h2
  go_enter Tryd.func65, Tryd.ntmps65
  go_wp2_with fail
  refine (rGreatest_any vf facts 0 _ (HRf.out.below HB.out) HF2.out (by omega) (by omega)).mono ?_
  rintro e w1 ⟨rfl, hw1⟩
  obtain rfl := hw1
  generalize w.alloc (.cells #[.int .i64 n, .slice a css.length c] 24) = W0 at *
  go_wp2
  go_loopg [5, 6] css.length (fun g m' i' wr => ∃ k : Nat, k + g = css.length ∧ m' = .int .i64 ((css.take k).foldl mx (mx 0 facts)) ∧ i' = .int .i64 k ∧ wr = W0)
  case atStart => exact ⟨0, by omega, by simp, rfl, rfl⟩
  case round =>
    obtain ⟨k, hk, rfl, rfl, hwr⟩ := hrel
    obtain rfl : W0 = wr := hwr.symm
    have HK : Hid (k + gk = css.length) := hk
    have c0 := HX.out.c0
    have c1 := HX.out.c1
    have ht := HT.out k
    clear hwr hk
    by_cases hlt : k < css.length
    · obtain ⟨a', c', e', -, -, hAT⟩ := HX.out.rd.form
      injection e' with e1 _ e3
      subst e1
      subst e3
      obtain ⟨bb, off, u, rfl, kc, hrd⟩ := hAT k hlt
      have HRd : Hid (Rd W0 u (css.getD k []) ∧ ∀ l ∈ css.getD k [], fmd l = true) := ⟨hrd, HF1.out _ (getD_in hlt)⟩
      obtain ⟨au, cu, rfl, -, -, -⟩ := hrd.form
      have HTk : Hid ((css.take (k + 1)).foldl mx (mx 0 facts) = mx ((css.take k).foldl mx (mx 0 facts)) (css.getD k [])) := top_take css _ hlt
      have HLT : Hid (k < css.length) := hlt
      clear hrd hAT
      generalize css.getD k [] = ck at *
      generalize (css.take k).foldl mx (mx 0 facts) = m0 at *
      go_wp2_with fail
      refine (rGreatest_any _ ck m0 W0 HRd.out.1 HRd.out.2 ht.1 ht.2).mono ?_
      rintro e w9 ⟨rfl, hw9⟩
      obtain rfl : W0 = w9 := hw9.symm
      clear hw9
      go_wp2
      go_roundg (gk - 1)
      case measure => have := HK.out; have := HLT.out; omega
      case rel => exact ⟨k + 1, by have := HK.out; have := HLT.out; omega, by rw [HTk.out], by go_num, rfl⟩
    · have hje : k = css.length := by have := HK.out; omega
      rw [hje, List.take_length] at ht ⊢
      clear hje
      have HTop : Hid (css.foldl mx (mx 0 facts) = topL css facts) := rfl
      obtain ⟨T, hT⟩ : ∃ T : Nat, css.foldl mx (mx 0 facts) = (T : Int) := ⟨(css.foldl mx (mx 0 facts)).toNat, by omega⟩
      have HTT : Hid ((topL css facts).toNat = T) := by show _ = _; unfold topL; rw [hT]; simp
      rw [hT] at ht ⊢
      have hmk := run_make_row' (P := Tryd.prog) 25 3 (.int .i64 0) 8 Tryd.underlying25 Tryd.info3 rfl .i64 .i64 (T + 1) (by omega) (by omega)
      have e1 : ((T + 1 : Nat) : Int) = (T : Int) + 1 := by omega
      rw [e1] at hmk
      have hw1 : IntKind.i64.wrap ((T : Int) + 1) = (T : Int) + 1 := by rw [IntKind.wrap_i64]; omega
      have HF : Hid (Vz w.heap.size (W0.alloc (.cells (madeCells #[.int .i64 0] (T + 1)) 3)) W0.heap.size (T + 1) T [] ∧ Below w.heap.size w (W0.alloc (.cells (madeCells #[.int .i64 0] (T + 1)) 3))) := by
        refine ⟨⟨by simp [vsL_len], .inr ⟨W0.heap.size, T + 1, _, rfl, HB.out.size, World.alloc_heap_new W0 _, Nat.le_refl _, by unfold maxLen; omega, by rw [made_zero6]; simp, ?_⟩⟩, Below.step HB.out (below_box _ _)⟩
        rw [made_zero6]
        apply List.ext_getElem (by simp [vsL_len])
        intro i h5 h6
        simp [vsL, vl]
      clear hT
      go_wp2
      go_ret
      exact ⟨W0.heap.size, by rw [HTT.out]; rfl, by rw [HTT.out]; exact HF.out.1, HF.out.2⟩
end Go.Proofs.YtijhabhbeambeaaDoor
set_option linter.unusedSimpArgs false
set_option linter.unusedVariables false
namespace Go.Proofs.YtijhabhbeambeaaDoor
open Go Go.RowKit

/-- all literals are formed, and of the variables up to t -/
def Upt (t : Nat) (L : List Int) : Prop := ∀ l ∈ L, fmd l = true ∧ l.natAbs ≤ t
theorem Upt.zero {t : Nat} {L : List Int} (h : Upt t L) : (0 : Int) ∉ L := fun h0 => (fmd_range (h 0 h0).1).1 rfl
theorem upt_facts {css : List (List Int)} {facts : List Int} (h : facts.all fmd = true) : Upt (topL css facts).toNat facts := fun l hl => by
  have hf := List.all_eq_true.1 h l hl
  have h1 := (top_range css facts).2.2.2 l hl
  rw [var_abs hf] at h1
  exact ⟨hf, by omega⟩
theorem upt_css {n : Int} {css : List (List Int)} {facts : List Int} (h : frm n css = true) : ∀ c ∈ css, Upt (topL css facts).toNat c := fun c hc l hl => by
  have hf := frm_fmd h c hc l hl
  have h1 := (top_range css facts).2.2.1 c hc l hl
  rw [var_abs hf] at h1
  exact ⟨hf, by omega⟩
theorem Con.take {L : List Int} {j : Nat} (h : Con L) : Con (L.take j) := fun l h1 h2 => h l (List.mem_of_mem_take h1) (List.mem_of_mem_take h2)
set_option maxRecDepth 100000 in
set_option maxHeartbeats 1000000 in
theorem rGiven_any (n : Int) (s vf : Value) (css : List (List Int)) (facts : List Int) (w : World) (hr : Rds w s css) (hf : Rd w vf facts) (h1 : frm n css = true) (h2 : facts.all fmd = true) :
    Calls Tryd.prog 42 #[.agg #[.int .i64 n, s], vf] w fun e w' => ∃ g, e = .returned (.tuple #[.slice (some ⟨g, 0, none⟩) ((topL css facts).toNat + 1) ((topL css facts).toNat + 1), .bool (!adj (tid facts))]) ∧ (adj (tid facts) = false → Vz w.heap.size w' g ((topL css facts).toNat + 1) (topL css facts).toNat facts) ∧ Below w.heap.size w w' := by
  have hlf := hf.len
  have HR : Hid (Rds w s css ∧ Rd w vf facts ∧ frm n css = true ∧ facts.all fmd = true) := ⟨hr, hf, h1, h2⟩
  have HU : Hid (Upt (topL css facts).toNat facts ∧ (topL css facts).toNat ≤ 1048576) := ⟨upt_facts h2, by have := (top_range css facts).2.1; omega⟩
  have HAd : Hid (adj (tid facts) = false ↔ Con facts) := adj_con h2
  obtain ⟨af, cf, rfl, hl1, hl2, hcf⟩ := hf.form
  have HCf : Hid (∀ (W : World) (j : Nat), Below w.heap.size w W → j < facts.length → ∃ bb off, af = some ⟨bb, off, none⟩ ∧ W.cell? ⟨bb, off + j, none⟩ = some (.int .i64 (facts.getD j 0))) := fun W j hW hj => by
    obtain ⟨bb, off, e, hc⟩ := hcf j hj
    exact ⟨bb, off, e, (hW.cell (p := ⟨bb, off + j, none⟩) (World.block_lt_of_cell? w _ hc)).trans hc⟩
  clear hr hf hcf h1 h2
  go_enter Tryd.func42, Tryd.ntmps42
  go_wp2_with fail
  refine (rValues_any n s _ css facts _ (HR.out.1.below (below_box _ _)) (HR.out.2.1.below (below_box _ _)) (frm_fmd HR.out.2.2.1) (fun l hl => List.all_eq_true.1 HR.out.2.2.2 l hl)).mono ?_
  rintro e w1 ⟨g, rfl, hv, hb⟩
  have HV : Hid (Vz w.heap.size w1 g ((topL css facts).toNat + 1) (topL css facts).toNat (facts.take 0) ∧ Below w.heap.size w w1 ∧ w.heap.size ≤ g) := ⟨row_mono hv (below_box _ _).size, Below.step (below_box _ _) hb, Nat.le_trans (below_box w _).size (hv.lt g rfl).1⟩
  clear hv hb
  generalize hTe : (topL css facts).toNat = T at *
  have HTT : Hid ((topL css facts).toNat = T) := hTe
  clear hTe
  go_wp2
  go_loopg [7] facts.length (fun q i' wr => ∃ k : Nat, k + q = facts.length ∧ i' = .int .i64 k ∧ Con (facts.take k) ∧ Vz w.heap.size wr g (T + 1) T (facts.take k) ∧ Below w.heap.size w wr)
  case atStart => exact ⟨0, by omega, rfl, by intro l hl; simp at hl, HV.out.1, HV.out.2.1⟩
  case round =>
    obtain ⟨k, hk, rfl, hcon, hv, hb⟩ := hrel
    have HK : Hid (k + gk = facts.length) := hk
    have HS : Hid (Con (facts.take k) ∧ Vz w.heap.size wr g (T + 1) T (facts.take k) ∧ Below w.heap.size w wr) := ⟨hcon, hv, hb⟩
    clear hk hcon hv hb
    by_cases hlt : k < facts.length
    · obtain ⟨bb, off, rfl, kc⟩ := HCf.out wr k HS.out.2.2 hlt
      have HL : Hid (fmd (facts.getD k 0) = true ∧ (facts.getD k 0).natAbs ≤ T) := HU.out.1 _ (getD_mem' hlt)
      have HT : Hid (facts.take (k + 1) = facts.take k ++ [facts.getD k 0]) := take_succ_getD facts 0 k hlt
      have HMem : Hid (facts.getD k 0 ∈ facts) := getD_mem' hlt
      have HLT : Hid (k < facts.length) := hlt
      generalize facts.getD k 0 = l at *
      have HZ : Hid ((0 : Int) ∉ facts.take k) := fun h0 => HU.out.1.zero (List.mem_of_mem_take h0)
      go_wp2_with fail
      refine (rValue_any _ T (facts.take k) l wr (HS.out.2.1.rd HU.out.2) HU.out.2 HL.out.1 HS.out.1 (.inl HL.out.2)).mono ?_
      rintro e w9 ⟨rfl, hw9⟩
      obtain rfl : wr = w9 := hw9.symm
      clear hw9
      by_cases hm : vl (facts.take k) l = -1
      · have HA : Hid (adj (tid facts) = true) := by
          cases e : adj (tid facts)
          · exact absurd (List.mem_of_mem_take (vl_m1 hm).1) (HAd.out.1 e l HMem.out)
          · rfl
        rw [hm]
        clear hm
        go_wp2
        go_ret2
        exact ⟨g, (by rw [HA.out, HTT.out]; rfl), (fun h => (by rw [HA.out] at h; cases h)), HS.out.2.2⟩
      · have HN : Hid (-l ∉ facts.take k) := fun h => by
          rcases vl_range (facts.take k) l with a | a | a
          · exact HS.out.1 l (vl_one.1 a) h
          · exact hm a
          · exact (vl_zero.1 a).2 h
        have hx : (vl (facts.take k) l == -1) = false := by simpa using hm
        generalize vl (facts.take k) l = x at *
        go_wp2_with fail
        refine (rPut_any w.heap.size g (T + 1) T (facts.take k) l wr HS.out.2.1 HU.out.2 HL.out.1 HN.out HZ.out HL.out.2).mono ?_
        rintro e w5 ⟨rfl, hv5, hg5⟩
        have HF : Hid (Con (facts.take (k + 1)) ∧ Vz w.heap.size w5 g (T + 1) T (facts.take (k + 1)) ∧ Below w.heap.size w w5) := by
          rw [HT.out]
          exact ⟨HS.out.1.snoc (fmd_range HL.out.1).1 HN.out, hv5, HS.out.2.2.grown hg5 HS.out.2.2.size (fun q e => by injection e with e; subst e; exact HV.out.2.2)⟩
        clear hv5 hg5 kc
        go_wp2
        go_roundg (gk - 1)
        case measure => have := HK.out; have := HLT.out; omega
        case rel => exact ⟨k + 1, by have := HK.out; have := HLT.out; omega, by go_num, HF.out.1, HF.out.2.1, HF.out.2.2⟩
    · have hke : k = facts.length := by have := HK.out; omega
      rw [hke, List.take_length] at HS
      have HA : Hid (adj (tid facts) = false) := HAd.out.2 HS.out.1
      clear hke
      go_wp2
      go_ret2
      exact ⟨g, (by rw [HA.out, HTT.out]; rfl), (fun _ => by rw [HTT.out]; exact HS.out.2.1), HS.out.2.2⟩

/-- what first answers -/
def FsOk (css : List (List Int)) (L : List Int) (i k o : Int) : Prop := (∃ j : Nat, At css L j 0 ∧ i = j ∧ k = 2 ∧ o = 0) ∨ (∃ (j : Nat) (l : Int), l ≠ 0 ∧ At css L j l ∧ i = j ∧ k = 3 ∧ o = l) ∨ (Calm css L ∧ i = -1 ∧ k = 0 ∧ o = 0)
set_option maxRecDepth 100000 in
set_option maxHeartbeats 1000000 in
theorem rFirst_any (n : Int) (s v : Value) (css : List (List Int)) (t : Nat) (L : List Int) (w : World) (hr : Rds w s css) (hv : Rd w v (vsL t L)) (ht : t ≤ 1048576) (hf : ∀ c ∈ css, Upt t c) (hc : Con L) :
    Calls Tryd.prog 43 #[.agg #[.int .i64 n, s], v] w fun e w' => ∃ i k o, e = .returned (.tuple #[.int .i64 i, .int .i64 k, .int .i64 o]) ∧ FsOk css L i k o ∧ Below w.heap.size w w' := by
  have hl := hr.len
  have HX : Hid (Bx w n s css (w.alloc (.cells #[.int .i64 n, s] 24))) := Bx.new hr _
  have HV : Hid (∀ W, Below w.heap.size w W → Rd W v (vsL t L)) := fun W hW => hv.below hW
  have HU : Hid ((∀ c ∈ css, Upt t c) ∧ Con L ∧ t ≤ 1048576) := ⟨hf, hc, ht⟩
  obtain ⟨a, c, rfl, h3, h4, -⟩ := hr.form
  have HB : Hid (Below w.heap.size w (w.alloc (.cells #[.int .i64 n, .slice a css.length c] 24))) := below_box _ _
  clear hr hv hf hc ht
  go_enter Tryd.func43, Tryd.ntmps43
  go_wp2
  generalize w.alloc (.cells #[.int .i64 n, .slice a css.length c] 24) = W0 at *
  go_loopg [7] css.length (fun g i' wr => ∃ k : Nat, k + g = css.length ∧ i' = .int .i64 k ∧ (∀ j, j < k → kd L (css.getD j []) = none) ∧ wr = W0)
  case atStart => exact ⟨0, by omega, rfl, fun j hj => by omega, rfl⟩
  case round =>
    obtain ⟨k, hk, rfl, hno, hwr⟩ := hrel
    obtain rfl : W0 = wr := hwr.symm
    have HK : Hid (k + gk = css.length) := hk
    have HNo : Hid (∀ j, j < k → kd L (css.getD j []) = none) := hno
    have c0 := HX.out.c0
    have c1 := HX.out.c1
    clear hwr hk hno
    by_cases hlt : k < css.length
    · obtain ⟨a', c', e', -, -, hAT⟩ := HX.out.rd.form
      injection e' with e1 _ e3
      subst e1
      subst e3
      obtain ⟨bb, off, u, rfl, kc, hrd⟩ := hAT k hlt
      have HRd : Hid (Rd W0 u (css.getD k [])) := hrd
      obtain ⟨au, cu, rfl, -, -, -⟩ := hrd.form
      have HLT : Hid (k < css.length) := hlt
      have HSt : Hid (Calls Tryd.prog 66 #[.slice au (css.getD k []).length cu, v] W0 fun e w' => ∃ k1 o, e = .returned (.tuple #[.int .i64 k1, .int .i64 o]) ∧ StOk L (css.getD k []) k1 o ∧ w' = W0) := rStands_any (.slice au (css.getD k []).length cu) v (css.getD k []) t L W0 HRd.out (HV.out _ HB.out) HU.out.2.2 (HU.out.1 _ (getD_in hlt)) HU.out.2.1
      clear hrd hAT
      generalize hck : css.getD k [] = ck at *
      have HCk : Hid (css.getD k [] = ck) := hck
      clear hck
      go_wp2_with fail
      refine HSt.out.mono ?_
      rintro e w9 ⟨kk, o, rfl, hst, hw9⟩
      obtain rfl : W0 = w9 := hw9.symm
      clear hw9
      rcases hst with ⟨hkd, rfl, rfl⟩ | ⟨l, hl0, hkd, rfl, rfl⟩ | ⟨hkd, hkk, rfl⟩
      · have HF : Hid (FsOk css L k 2 0) := .inl ⟨k, ⟨HLT.out, by rw [HCk.out]; exact hkd, HNo.out⟩, rfl, rfl, rfl⟩
        clear hkd
        go_wp2
        go_ret3
        exact ⟨_, _, _, rfl, HF.out, HB.out⟩
      · have HF : Hid (FsOk css L k 3 o) := .inr (.inl ⟨k, o, hl0, ⟨HLT.out, by rw [HCk.out]; exact hkd, HNo.out⟩, rfl, rfl, rfl⟩)
        clear hkd
        go_wp2
        go_ret3
        exact ⟨_, _, _, rfl, HF.out, HB.out⟩
      · have HF : Hid (∀ j, j < k + 1 → kd L (css.getD j []) = none) := fun j hj => by
          by_cases e : j = k
          · subst e; rw [HCk.out]; exact hkd
          · exact HNo.out j (by omega)
        clear hkd
        rcases hkk with rfl | rfl
        · go_wp2
          go_roundg (gk - 1)
          case measure => have := HK.out; have := HLT.out; omega
          case rel => exact ⟨k + 1, by have := HK.out; have := HLT.out; omega, by go_num, HF.out, rfl⟩
        · go_wp2
          go_roundg (gk - 1)
          case measure => have := HK.out; have := HLT.out; omega
          case rel => exact ⟨k + 1, by have := HK.out; have := HLT.out; omega, by go_num, HF.out, rfl⟩
    · have HF : Hid (FsOk css L (-1) 0 0) := .inr (.inr ⟨fun j hj => HNo.out j (by have := HK.out; omega), rfl, rfl, rfl⟩)
      go_wp2
      go_ret3
      exact ⟨_, _, _, rfl, HF.out, HB.out⟩
end Go.Proofs.YtijhabhbeambeaaDoor
set_option linter.unusedSimpArgs false
set_option linter.unusedVariables false
namespace Go.Proofs.YtijhabhbeambeaaDoor
open Go Go.RowKit

theorem Pth.upt {css : List (List Int)} {L : List Int} {cs : List (Int × Nat)} {t : Nat} (h : Pth css L cs) (hL : Upt t L) (hc : ∀ c ∈ css, Upt t c) : Upt t (L ++ cs.map Prod.fst) := fun l hl => by
  rcases List.mem_append.1 hl with a | a
  · exact hL l a
  · obtain ⟨c, h1, h2⟩ := h.new.2.2 l a
    exact hc c h1 l h2
set_option maxRecDepth 100000 in
set_option maxHeartbeats 2000000 in
theorem rWhy_any (v : Int) (s vf : Value) (css : List (List Int)) (facts : List Int) (w : World) (hr : Rds w s css) (hf : Rd w vf facts) :
    Calls Tryd.prog 17 #[.agg #[.int .i64 v, s], vf] w fun e w' => ∃ u cs e0, e = .returned (.tuple #[u, .int .i64 e0, .int .i64 (whyE v css facts)]) ∧ Wy w w' v css facts u cs e0 := by
  have HR : Hid (Rds w s css ∧ Rd w vf facts) := ⟨hr, hf⟩
  obtain ⟨af, cf, rfl, hl1, hl2, -⟩ := hf.form
  obtain ⟨aS, cS, rfl, hl3, hl4, -⟩ := hr.form
  have HNo : Hid (∀ w', Below w.heap.size w w' → ∀ x : Int, whyE v css facts = x → x ≠ 0 → ∃ u cs e0, Ending.returned (.tuple #[.slice none 0 0, .int .i64 0, .int .i64 x]) = .returned (.tuple #[u, .int .i64 e0, .int .i64 (whyE v css facts)]) ∧ Wy w w' v css facts u cs e0) := fun w' hb x hx hx0 => ⟨_, [], 0, by rw [hx], ⟨World.ownsRow_nil _ _ _ _, fun h => absurd (hx.symm.trans h) hx0, fun _ => ⟨rfl, rfl, rfl⟩, hb⟩⟩
  have HB1 : Hid (Below w.heap.size w (w.alloc (.cells #[.int .i64 v, .slice aS css.length cS] 24))) := below_box _ _
  have k0 := box0 w (.int .i64 v) (.slice aS css.length cS) 24
  have k1 := box1 w (.int .i64 v) (.slice aS css.length cS) 24
  have hbs : w.heap.size < (w.alloc (.cells #[.int .i64 v, .slice aS css.length cS] 24)).heap.size := by rw [World.size_alloc]; exact Nat.lt_succ_self _
  have HX0 : Hid (∀ W, Below (w.alloc (.cells #[.int .i64 v, .slice aS css.length cS] 24)).heap.size (w.alloc (.cells #[.int .i64 v, .slice aS css.length cS] 24)) W → W.cell? ⟨w.heap.size, 0, none⟩ = some (.int .i64 v) ∧ W.cell? ⟨w.heap.size, 1, none⟩ = some (.slice aS css.length cS)) := fun W hW => ⟨(hW.cell (p := ⟨w.heap.size, 0, none⟩) hbs).trans k0, (hW.cell (p := ⟨w.heap.size, 1, none⟩) hbs).trans k1⟩
  clear hr hf k0 k1 hbs
  go_enter Tryd.func17, Tryd.ntmps17
  go_wp2_with fail
  refine (rFormed_any v _ css _ (HR.out.1.below (below_box _ _))).mono ?_
  rintro e w1 ⟨rfl, bel1⟩
  generalize w.alloc (.cells #[.int .i64 v, .slice aS css.length cS] 24) = W0 at *
  have HBx : Hid (Below W0.heap.size W0 w1) := bel1
  clear bel1
  cases hfm : frm v css
  · have HE : Hid (whyE v css facts = 1) := by show _ = _; unfold whyE; rw [hfm]; rfl
    go_wp2
    go_ret3
    exact HNo.out _ (Below.step HB1.out HBx.out) 1 HE.out (by decide)
  · go_wp2_with fail
    refine (rSound_any _ facts w1 (HR.out.2.below (Below.step HB1.out HBx.out))).mono ?_
    rintro e w2 ⟨rfl, hw2⟩
    obtain rfl : w1 = w2 := hw2.symm
    clear hw2
    cases hsd : facts.all fmd
    · have HE : Hid (whyE v css facts = 1) := by show _ = _; unfold whyE; rw [hfm, hsd]; rfl
      go_wp2
      go_ret3
      exact HNo.out _ (Below.step HB1.out HBx.out) 1 HE.out (by decide)
    · obtain ⟨k0, k1⟩ := HX0.out w1 HBx.out
      go_wp2_with fail
      refine (rGiven_any v _ _ css facts w1 (HR.out.1.below (Below.step HB1.out HBx.out)) (HR.out.2.below (Below.step HB1.out HBx.out)) hfm hsd).mono ?_
      rintro e w2 ⟨g, rfl, hvz, bel2⟩
      have HB2 : Hid (Below W0.heap.size W0 w2) := Below.step HBx.out bel2
      cases had : adj (tid facts)
      · have HE : Hid (whyE v css facts = 0) := by show _ = _; unfold whyE; rw [hfm, hsd, had]; rfl
        have HCon : Hid (Con facts) := (adj_con hsd).1 had
        have HUp : Hid (Upt (topL css facts).toNat facts ∧ (∀ c ∈ css, Upt (topL css facts).toNat c) ∧ (topL css facts).toNat ≤ 1048576) := ⟨upt_facts hsd, upt_css hfm, by have := (top_range css facts).2.1; omega⟩
        have HFm : Hid (frm v css = true) := hfm
        have HVz : Hid (Vz W0.heap.size w2 g ((topL css facts).toNat + 1) (topL css facts).toNat (facts ++ ([] : List (Int × Nat)).map Prod.fst) ∧ W0.heap.size ≤ g) := ⟨by rw [List.map_nil, List.append_nil]; exact row_mono (hvz had) HBx.out.size, Nat.le_trans HBx.out.size ((hvz had).lt g rfl).1⟩
        obtain ⟨iC, hiC, hC0, hC1, hC2⟩ := info_parts Tryd.infoCause
        have HI : Hid (Tryd.prog.info? 78 = some iC ∧ iC.zero = some (.agg #[.int .i64 0, .int .i64 0]) ∧ iC.size = 2 ∧ iC.bytes = 16) := ⟨hiC, hC0, hC1, hC2⟩
        clear hvz bel2 hfm hsd had k0 k1 hiC hC0 hC1 hC2
        generalize (topL css facts).toNat = T at *
        go_wp2
        go_loopg [9] (mes css facts) (fun q o' wr => ∃ cs, q = mes css (facts ++ cs.map Prod.fst) ∧ Pth css facts cs ∧ Vz W0.heap.size wr g (T + 1) T (facts ++ cs.map Prod.fst) ∧ wr.ownsRow W0.heap.size 78 2 o' cs.length (twc cs) ∧ Below W0.heap.size W0 wr)
        case atStart => exact ⟨[], by simp, trivial, HVz.out.1, World.ownsRow_nil _ _ _ _, HB2.out⟩
        case round =>
          obtain ⟨cs, hq, hp, hv, ho, hb⟩ := hrel
          have HQ : Hid (gk = mes css (facts ++ cs.map Prod.fst)) := hq
          have HS : Hid (Pth css facts cs ∧ Vz W0.heap.size wr g (T + 1) T (facts ++ cs.map Prod.fst) ∧ wr.ownsRow W0.heap.size 78 2 u9 cs.length (twc cs) ∧ Below W0.heap.size W0 wr) := ⟨hp, hv, ho, hb⟩
          obtain ⟨ao, co, eo⟩ := row_form' ho
          have HCn : Hid (Con (facts ++ cs.map Prod.fst)) := Pth.con HCon.out hp
          obtain ⟨k0, k1⟩ := HX0.out wr hb
          clear hq hp hv ho hb
          subst eo
          have HRs : Hid (∀ W, Below W0.heap.size W0 W → Rds W (.slice aS css.length cS) css) := fun W hW => HR.out.1.below (Below.step HB1.out hW)
          go_wp2_with fail
          refine (rFirst_any v _ _ css T (facts ++ cs.map Prod.fst) wr (HRs.out wr HS.out.2.2.2) (HS.out.2.1.rd HUp.out.2.2) HUp.out.2.2 HUp.out.2.1 HCn.out).mono ?_
          rintro e w3 ⟨i, kk, o, rfl, hfs, bel3⟩
          have HS3 : Hid (Vz W0.heap.size w3 g (T + 1) T (facts ++ cs.map Prod.fst) ∧ w3.ownsRow W0.heap.size 78 2 (.slice ao cs.length co) cs.length (twc cs) ∧ Below W0.heap.size W0 w3) := ⟨HS.out.2.1.below bel3, row_kept HS.out.2.2.1 fun k hk => bel3.block k (HS.out.2.2.1.lt k hk.symm).2, Below.step HS.out.2.2.2 bel3⟩
          have HWy : Hid (∀ e0, End css (facts ++ cs.map Prod.fst) e0 → Wy w w3 v css facts (.slice ao cs.length co) cs e0) := fun e0 he => ⟨row_mono HS3.out.2.1 HB1.out.size, fun _ => ⟨HS.out.1, he⟩, fun h => absurd HE.out h, Below.step HB1.out HS3.out.2.2⟩
          clear bel3 k0 k1
          rcases hfs with ⟨j, hat, rfl, rfl, rfl⟩ | ⟨j, l, hl0, hat, rfl, rfl, rfl⟩ | ⟨hcalm, rfl, rfl, rfl⟩
          · have HF : Hid (Wy w w3 v css facts (.slice ao cs.length co) cs (j : Int)) := HWy.out _ (.inr ⟨j, rfl, hat⟩)
            clear hat
            go_wp2
            go_ret3
            exact ⟨_, cs, _, by rw [HE.out]; rfl, HF.out⟩
          · have HA : Hid (At css (facts ++ cs.map Prod.fst) j o ∧ o ≠ 0) := ⟨hat, hl0⟩
            obtain ⟨u1, u2, u3, u4⟩ := hat.unit hl0
            have HO : Hid (fmd o = true ∧ o.natAbs ≤ T ∧ -o ∉ facts ++ cs.map Prod.fst ∧ o ∈ css.getD j [] ∧ o ∉ facts ++ cs.map Prod.fst) := ⟨(HUp.out.2.1 _ (getD_in hat.lt) o u1).1, (HUp.out.2.1 _ (getD_in hat.lt) o u1).2, u2, u1, u3⟩
            have HZ : Hid ((0 : Int) ∉ facts ++ cs.map Prod.fst) := (HS.out.1.upt HUp.out.1 HUp.out.2.1).zero
            have hjb : j ≤ 5864062014805 := by have h1 := HR.out.1.len; have h2 := hat.lt; omega
            have HLen : Hid (cs.length ≤ 2097152) := by
              obtain ⟨h1, h2, h3⟩ := HS.out.1.new
              have := lits_few h1 fun x hx => by obtain ⟨c, hc, hxc⟩ := h3 x hx; exact (HUp.out.2.1 c hc x hxc).1
              show cs.length ≤ 2097152
              simpa using this
            clear hat u1 u2 u3 u4
            go_wp2_with fail
            refine (rPut_any W0.heap.size g (T + 1) T (facts ++ cs.map Prod.fst) o w3 HS3.out.1 HUp.out.2.2 HO.out.1 HO.out.2.2.1 HZ.out HO.out.2.1).mono ?_
            rintro e w4 ⟨rfl, hv4, hg4⟩
            have hrow4 : w4.ownsRow W0.heap.size 78 2 (.slice ao cs.length co) cs.length (twc cs) := row_other HS3.out.2.1 hg4 (fun x e => by injection e with e; subst e; exact row_ty HS3.out.1 rfl) (by decide)
            have HS4 : Hid (Vz W0.heap.size (w4.alloc (.cells #[.int .i64 o, .int .i64 (j : Int)] 78)) g (T + 1) T (facts ++ cs.map Prod.fst ++ [o]) ∧ (w4.alloc (.cells #[.int .i64 o, .int .i64 (j : Int)] 78)).ownsRow W0.heap.size 78 2 (.slice ao cs.length co) cs.length (twc cs) ∧ Below W0.heap.size W0 (w4.alloc (.cells #[.int .i64 o, .int .i64 (j : Int)] 78))) := by
              have hb4 : Below W0.heap.size W0 w4 := HS3.out.2.2.grown hg4 HS3.out.2.2.size (fun q e => by injection e with e; subst e; exact HVz.out.2)
              exact ⟨hv4.below (below_box _ _), row_kept hrow4 fun k hk => (below_box w4 _).block k (hrow4.lt k hk.symm).2, Below.step hb4 (below_box _ _)⟩
            have HB2 : Hid (∀ q x, [Value.int .i64 o, Value.int .i64 (j : Int)][q]? = some x → (w4.alloc (.cells #[.int .i64 o, .int .i64 (j : Int)] 78)).cell? ((⟨w4.heap.size, 0, none⟩ : Addr).add q) = some x) := fun q x hx => by
              rw [Addr.add_lit]
              have hh := World.alloc_heap_new w4 (.cells #[.int .i64 o, .int .i64 (j : Int)] 78)
              show (match (w4.alloc (.cells #[.int .i64 o, .int .i64 (j : Int)] 78)).heap[w4.heap.size]? with | some (Obj.cells c elem frozen) => c[0 + q]? | x => none) = _
              rw [hh]
              simpa using hx
            have HApp : Hid (∀ v8 w8, w8.ownsRow W0.heap.size 78 2 v8 (cs.length + 1) (twc cs ++ [.int .i64 o, .int .i64 (j : Int)]) → Ap (w4.alloc (.cells #[.int .i64 o, .int .i64 (j : Int)] 78)) (.slice ao cs.length co) w8 v8 → Vz W0.heap.size w8 g (T + 1) T (facts ++ (cs ++ [(o, j)]).map Prod.fst) ∧ w8.ownsRow W0.heap.size 78 2 v8 (cs ++ [(o, j)]).length (twc (cs ++ [(o, j)])) ∧ Below W0.heap.size W0 w8) := fun v8 w8 own8 ap8 => by
              have ht : ∀ x, (Value.slice ao cs.length co).ownBlock = some x → Ty _ x 78 := fun x e => row_ty HS4.out.2.1 e.symm
              refine ⟨?_, by rw [twc_snoc, List.length_append]; exact own8, HS4.out.2.2.grown ap8.grown HS4.out.2.2.size (fun q e => (HS4.out.2.1.lt q e).1)⟩
              rw [Pth.snocL (css := css)]
              exact row_other HS4.out.1 ap8.grown ht (by decide)
            have hl63 : cs.length + 1 ≤ maxLen := by have := HLen.out; unfold maxLen; omega
            have hl48 : (cs.length + 1) * 16 ≤ 140737488355328 := by have := HLen.out; omega
            clear hv4 hg4 hrow4
            generalize hM : cs.length = M at *
            have HM : Hid (cs.length = M) := hM
            clear hM
            generalize htw : twc cs = tw at *
            clear htw
            go_wp2_with (at_builtin; refine wpList_append_apk rfl _ _ 40 rfl W0.heap.size 78 iC (.agg #[.int .i64 0, .int .i64 0]) 2 16 Tryd.underlying40 HI.out.1 HI.out.2.1 HI.out.2.2.1 HI.out.2.2.2 rfl (by decide) (.slice ao M co) M tw rfl HS4.out.2.1 ⟨w4.heap.size, 0, none⟩ 1 1 [.int .i64 o, .int .i64 (j : Int)] rfl rfl HB2.out (by simp [Value.oneCell']) hl63 hl48 HS4.out.2.2.size ?_; intro v8 w8 own8 ap8; have HF8 : Hid (_ ∧ _) := HApp.out v8 w8 own8 ap8; obtain ⟨a8, c8, hv8⟩ := row_form' own8; subst hv8; clear own8 ap8)
            go_roundg (mes css (facts ++ (cs ++ [(o, j)]).map Prod.fst))
            case measure =>
              rw [HQ.out, Pth.snocL (css := css)]
              exact filter_lt (x := o) (fun y _ hy => by
                rw [decide_eq_true_eq] at hy ⊢
                exact fun h2 => hy (List.mem_append.2 (.inl h2))) (List.mem_flatten.2 ⟨_, getD_in HA.out.1.lt, HO.out.2.2.2.1⟩) (decide_eq_true HO.out.2.2.2.2) (by simp)
            case rel => exact ⟨cs ++ [(o, j)], rfl, HS.out.1.snoc HA.out.1 HA.out.2, HF8.out.1, HF8.out.2.1, HF8.out.2.2⟩
          · have HF : Hid (Wy w w3 v css facts (.slice ao cs.length co) cs (-1)) := HWy.out _ (.inl ⟨rfl, hcalm⟩)
            clear hcalm
            go_wp2
            go_ret3
            exact ⟨_, cs, _, by rw [HE.out]; rfl, HF.out⟩
      · have HE : Hid (whyE v css facts = 20) := by show _ = _; unfold whyE; rw [hfm, hsd, had]; rfl
        clear hvz
        go_wp2
        go_ret3
        exact HNo.out _ (Below.step HB1.out HB2.out) 20 HE.out (by decide)
end Go.Proofs.YtijhabhbeambeaaDoor
set_option linter.unusedSimpArgs false
set_option linter.unusedVariables false
namespace Go.Proofs.YtijhabhbeambeaaDoor
open Go Go.RowKit

/-- what is true so far, on the way from some facts -/
structure Ri (css : List (List Int)) (facts : List Int) (t : Nat) (L : List Int) : Prop where
  con : Con L
  had : ∀ x ∈ facts, x ∈ L
  der : ∀ x ∈ L, Der css facts x
  upt : Upt t L
theorem Ri.put {css : List (List Int)} {facts : List Int} {t : Nat} {L : List Int} {k : Nat} {l : Int} (h : Ri css facts t L) (hk : k < css.length) (h0 : l ≠ 0) (hkd : kd L (css.getD k []) = some l) (hu : ∀ c ∈ css, Upt t c) : Ri css facts t (L ++ [l]) ∧ -l ∉ L ∧ l ∉ L ∧ l ∈ css.getD k [] := by
  rcases kd_cases L (css.getD k []) with ⟨e, _⟩ | ⟨e, _, _⟩ | ⟨l', e, h1, h2, h3, h4⟩
  · rw [hkd] at e; cases e
  · rw [hkd] at e; injection e with e; exact absurd e h0
  · rw [hkd] at e; injection e with e; subst e
    refine ⟨⟨h.con.snoc h0 h2, fun x hx => List.mem_append.2 (.inl (h.had x hx)), fun x hx => ?_, fun x hx => ?_⟩, h2, h4 _ h1, h1⟩
    · rcases List.mem_append.1 hx with a | a
      · exact h.der x a
      · rw [show x = l by simpa using a]
        exact .unit (getD_in hk) h1 fun m hm hne => h.der _ (h3 m hm hne)
    · rcases List.mem_append.1 hx with a | a
      · exact h.upt x a
      · rw [show x = l by simpa using a]; exact hu _ (getD_in hk) l h1
theorem Ri.clash {css : List (List Int)} {facts : List Int} {t : Nat} {L : List Int} {k : Nat} (h : Ri css facts t L) (hk : k < css.length) (nz : Nz css) (hkd : kd L (css.getD k []) = some 0) : Cla css facts := by
  rcases kd_cases L (css.getD k []) with ⟨e, _⟩ | ⟨e, h1, _⟩ | ⟨l', e, h1, h2, h3, h4⟩
  · rw [hkd] at e; cases e
  · exact .inr ⟨_, getD_in hk, fun m hm => h.der _ (h1 m hm)⟩
  · rw [hkd] at e; injection e with e; subst e; exact absurd rfl (nz _ (getD_in hk) _ h1)
theorem Ri.fin {css : List (List Int)} {facts : List Int} {t : Nat} {L : List Int} (h : Ri css facts t L) (hc : Calm css L) : ¬ Cla css facts ∧ ∀ x, Der css facts x ↔ x ∈ L := by
  obtain ⟨h1, h2⟩ := calm_der h.con hc
  have hin : ∀ x ∈ facts, Der css L x := fun x hx => .fact (h.had x hx)
  exact ⟨fun h3 => h2 (h3.trans hin), fun x => ⟨fun h3 => h1 x (h3.trans hin), h.der x⟩⟩
theorem mes_put {css : List (List Int)} {L : List Int} {k : Nat} {l : Int} (hk : k < css.length) (hl : l ∈ css.getD k []) (hL : l ∉ L) : mes css (L ++ [l]) < mes css L :=
  filter_lt (x := l) (fun y _ hy => by
    rw [decide_eq_true_eq] at hy ⊢
    exact fun h2 => hy (List.mem_append.2 (.inl h2))) (List.mem_flatten.2 ⟨_, getD_in hk, hl⟩) (decide_eq_true hL) (by simp)
/-- where a round stands -/
structure Rd6 (css : List (List Int)) (facts : List Int) (t : Nat) (L L' : List Int) (n : Nat) (k : Nat) : Prop where
  ri : Ri css facts t L'
  no : n = 0 → L' = L ∧ ∀ j, j < k → kd L (css.getD j []) = none
  yes : 0 < n → mes css L' < mes css L
  few : n ≤ k
set_option maxRecDepth 100000 in
set_option maxHeartbeats 2000000 in
theorem rRound_any (B g t : Nat) (v : Int) (s : Value) (css : List (List Int)) (facts L : List Int) (w : World) (hr : Rds w s css) (hv : Vz B w g (t + 1) t L) (ht : t ≤ 1048576) (hu : ∀ c ∈ css, Upt t c) (hi : Ri css facts t L) (hN : css.length ≤ 1073741824) (hap : ∀ W, w.grownBy W (some g) → Rds W s css) :
    Calls Tryd.prog 60 #[.agg #[.int .i64 v, s], .slice (some ⟨g, 0, none⟩) (t + 1) (t + 1)] w fun e w' => ∃ (n : Nat) (clash : Bool) (L' : List Int), e = .returned (.tuple #[.int .i64 (n : Int), .bool clash]) ∧ Vz B w' g (t + 1) t L' ∧ Ri css facts t L' ∧ mes css L' ≤ mes css L ∧ (clash = true → Cla css facts) ∧ (clash = false → n = 0 → Calm css L') ∧ (0 < n → mes css L' < mes css L) ∧ w.grownBy w' (some g) ∧ n ≤ css.length := by
  have HU : Hid ((∀ c ∈ css, Upt t c) ∧ t ≤ 1048576 ∧ Nz css) := ⟨hu, ht, fun c hc l hl => (fmd_range (hu c hc l hl).1).1⟩
  have HBel : Hid (w.grownBy (w.alloc (.cells #[.int .i64 v, s] 24)) (some g)) := ⟨rfl, rfl, rfl, (below_box w _).size, fun k hk _ => (below_box w _).block k hk⟩
  have HAp : Hid (∀ W, w.grownBy W (some g) → Rds W s css) := hap
  have hgl : g < w.heap.size := (hv.lt g rfl).2
  have k0 := box0 w (.int .i64 v) s 24
  have k1 := box1 w (.int .i64 v) s 24
  have HX0 : Hid (∀ W, (w.alloc (.cells #[.int .i64 v, s] 24)).grownBy W (some g) → W.cell? ⟨w.heap.size, 0, none⟩ = some (.int .i64 v) ∧ W.cell? ⟨w.heap.size, 1, none⟩ = some s) := fun W hW => by
    have hb := hW.block w.heap.size (by rw [World.size_alloc]; exact Nat.lt_succ_self _) (fun e => by injection e with e; omega)
    have hc : ∀ o, W.cell? ⟨w.heap.size, o, none⟩ = (w.alloc (.cells #[.int .i64 v, s] 24)).cell? ⟨w.heap.size, o, none⟩ := fun o => by simp only [World.cell?, hb]
    exact ⟨(hc 0).trans k0, (hc 1).trans k1⟩
  obtain ⟨aS, cS, rfl, hl3, hl4, -⟩ := hr.form
  have HS0 : Hid (Vz B (w.alloc (.cells #[.int .i64 v, .slice aS css.length cS] 24)) g (t + 1) t L ∧ Rd6 css facts t L L 0 0) := ⟨hv.below (below_box _ _), ⟨hi, fun _ => ⟨rfl, fun j hj => by omega⟩, fun h => by omega, Nat.le_refl _⟩⟩
  clear hr hv ht hu hi hap k0 k1 hgl
  go_enter Tryd.func60, Tryd.ntmps60
  go_wp2
  generalize w.alloc (.cells #[.int .i64 v, .slice aS css.length cS] 24) = W0 at *
  go_loopg [6, 7] css.length (fun q n' i' wr => ∃ (n k : Nat) (L' : List Int), k + q = css.length ∧ n' = .int .i64 (n : Int) ∧ i' = .int .i64 (k : Int) ∧ Rd6 css facts t L L' n k ∧ Vz B wr g (t + 1) t L' ∧ W0.grownBy wr (some g))
  case atStart => exact ⟨0, 0, L, by omega, rfl, rfl, HS0.out.2, HS0.out.1, ⟨rfl, rfl, rfl, Nat.le_refl _, fun _ _ _ => rfl⟩⟩
  case round =>
    obtain ⟨n, k, L', hk, rfl, rfl, hrd, hv, hgb⟩ := hrel
    have HK : Hid (k + gk = css.length) := hk
    have HS : Hid (Rd6 css facts t L L' n k ∧ Vz B wr g (t + 1) t L' ∧ W0.grownBy wr (some g)) := ⟨hrd, hv, hgb⟩
    have hfew := hrd.few
    have HG : Hid (w.grownBy wr (some g)) := ⟨hgb.os.trans HBel.out.os, hgb.tape.trans HBel.out.tape, hgb.output.trans HBel.out.output, Nat.le_trans HBel.out.size hgb.size, fun q hq hne => (hgb.block q (Nat.lt_of_lt_of_le hq HBel.out.size) hne).trans (HBel.out.block q hq hne)⟩
    obtain ⟨c0, c1⟩ := HX0.out wr hgb
    have HRds : Hid (Rds wr (.slice aS css.length cS) css) := HAp.out wr HG.out
    have HMes : Hid (mes css L' ≤ mes css L) := by
      by_cases h0 : 0 < n
      · exact Nat.le_of_lt (hrd.yes h0)
      · rw [(hrd.no (by omega)).1]; exact Nat.le_refl _
    clear hk hrd hv hgb
    by_cases hlt : k < css.length
    · obtain ⟨a', c', e', -, -, hAT⟩ := HRds.out.form
      injection e' with e1 _ e3
      subst e1
      subst e3
      obtain ⟨bb, off, u, rfl, kc, hrd⟩ := hAT k hlt
      have HRd : Hid (Rd wr u (css.getD k [])) := hrd
      obtain ⟨au, cu, rfl, -, -, -⟩ := hrd.form
      have HLT : Hid (k < css.length) := hlt
      have HSt : Hid (Calls Tryd.prog 66 #[.slice au (css.getD k []).length cu, .slice (some ⟨g, 0, none⟩) (t + 1) (t + 1)] wr fun e w' => ∃ k1 o, e = .returned (.tuple #[.int .i64 k1, .int .i64 o]) ∧ StOk L' (css.getD k []) k1 o ∧ w' = wr) := rStands_any (.slice au (css.getD k []).length cu) _ (css.getD k []) t L' wr HRd.out (HS.out.2.1.rd HU.out.2.1) HU.out.2.1 (HU.out.1 _ (getD_in hlt)) HS.out.1.ri.con
      clear hrd hAT
      generalize hck : css.getD k [] = ck at *
      have HCk : Hid (css.getD k [] = ck) := hck
      clear hck
      go_wp2_with fail
      refine HSt.out.mono ?_
      rintro e w9 ⟨kk, o, rfl, hst, hw9⟩
      obtain rfl : wr = w9 := hw9.symm
      clear hw9
      rcases hst with ⟨hkd, rfl, rfl⟩ | ⟨l, hl0, hkd, rfl, rfl⟩ | ⟨hkd, hkk, rfl⟩
      · have HC : Hid (Cla css facts) := HS.out.1.ri.clash HLT.out HU.out.2.2 (by rw [HCk.out]; exact hkd)
        clear hkd
        go_wp2
        go_ret2
        exact ⟨n, true, L', rfl, HS.out.2.1, HS.out.1.ri, HMes.out, fun _ => HC.out, fun h => Bool.noConfusion h, HS.out.1.yes, HG.out, by have := HS.out.1.few; have := HLT.out; omega⟩
      · obtain ⟨hri, hn1, hn2, hn3⟩ := HS.out.1.ri.put HLT.out hl0 (by rw [HCk.out]; exact hkd) HU.out.1
        have HP : Hid (Ri css facts t (L' ++ [o]) ∧ -o ∉ L' ∧ o ∉ L' ∧ o ∈ css.getD k []) := ⟨hri, hn1, hn2, hn3⟩
        have HOu : Hid (fmd o = true ∧ o.natAbs ≤ t) := HU.out.1 _ (getD_in HLT.out) o hn3
        clear hkd hri hn1 hn2 hn3
        go_wp2_with fail
        refine (rPut_any B g (t + 1) t L' o wr HS.out.2.1 HU.out.2.1 HOu.out.1 HP.out.2.1 HS.out.1.ri.upt.zero HOu.out.2).mono ?_
        rintro e w5 ⟨rfl, hv5, hg5⟩
        have HF : Hid (Rd6 css facts t L (L' ++ [o]) (n + 1) (k + 1) ∧ Vz B w5 g (t + 1) t (L' ++ [o]) ∧ W0.grownBy w5 (some g)) := by
          refine ⟨⟨HP.out.1, fun h => by omega, fun _ => Nat.lt_of_lt_of_le (mes_put HLT.out HP.out.2.2.2 HP.out.2.2.1) HMes.out, by have := HS.out.1.few; omega⟩, hv5, ?_⟩
          have h1 := HS.out.2.2
          exact ⟨hg5.os.trans h1.os, hg5.tape.trans h1.tape, hg5.output.trans h1.output, Nat.le_trans h1.size hg5.size, fun q hq hne => (hg5.block q (Nat.lt_of_lt_of_le hq h1.size) hne).trans (h1.block q hq hne)⟩
        have hwn : IntKind.i64.wrap ((n : Int) + 1) = (n : Int) + 1 := by rw [IntKind.wrap_i64]; omega
        clear hv5 hg5 c0 c1 kc
        go_wp2
        go_roundg (gk - 1)
        case measure => have := HK.out; have := HLT.out; omega
        case rel => exact ⟨n + 1, k + 1, L' ++ [o], by have := HK.out; have := HLT.out; omega, by go_num, by go_num, HF.out.1, HF.out.2.1, HF.out.2.2⟩
      · have HF : Hid (Rd6 css facts t L L' n (k + 1)) := ⟨HS.out.1.ri, fun h0 => by
          obtain ⟨h1, h2⟩ := HS.out.1.no h0
          refine ⟨h1, fun j hj => ?_⟩
          by_cases e : j = k
          · subst e; rw [HCk.out, ← h1]; exact hkd
          · exact h2 j (by omega), HS.out.1.yes, by have := HS.out.1.few; omega⟩
        clear hkd
        rcases hkk with rfl | rfl
        · go_wp2
          go_roundg (gk - 1)
          case measure => have := HK.out; have := HLT.out; omega
          case rel => exact ⟨n, k + 1, L', by have := HK.out; have := HLT.out; omega, rfl, by go_num, HF.out, HS.out.2.1, HS.out.2.2⟩
        · go_wp2
          go_roundg (gk - 1)
          case measure => have := HK.out; have := HLT.out; omega
          case rel => exact ⟨n, k + 1, L', by have := HK.out; have := HLT.out; omega, rfl, by go_num, HF.out, HS.out.2.1, HS.out.2.2⟩
    · have HCm : Hid (n = 0 → Calm css L') := fun h0 j hj => by
        obtain ⟨h1, h2⟩ := HS.out.1.no h0
        rw [h1]
        exact h2 j (by have := HK.out; omega)
      go_wp2
      go_ret2
      exact ⟨n, false, L', rfl, HS.out.2.1, HS.out.1.ri, HMes.out, fun h => Bool.noConfusion h, fun _ => HCm.out, HS.out.1.yes, HG.out, by have := HS.out.1.few; have := HK.out; omega⟩

theorem rds_apart {w W : World} {s : Value} {css : List (List Int)} {g B : Nat} (hr : ∀ W0, Below B w W0 → Rds W0 s css) (hg : B ≤ g) (h : w.grownBy W (some g)) (hB : B ≤ w.heap.size) : Rds W s css :=
  hr W ⟨h.os, h.tape, h.output, h.size, fun k hk => h.block k (by omega) (fun e => by injection e with e; omega)⟩
/-- what Closing answers -/
def Cg (w : World) (css : List (List Int)) (facts : List Int) (e : Ending) (w' : World) : Prop := ∃ (g : Nat) (clash : Bool), e = .returned (.tuple #[.slice (some ⟨g, 0, none⟩) ((topL css facts).toNat + 1) ((topL css facts).toNat + 1), .bool clash]) ∧ Below w.heap.size w w' ∧ (clash = true → Cla css facts) ∧ (clash = false → ∃ L, Vz w.heap.size w' g ((topL css facts).toNat + 1) (topL css facts).toNat L ∧ Con L ∧ Upt (topL css facts).toNat L ∧ ¬ Cla css facts ∧ ∀ x, Der css facts x ↔ x ∈ L)
set_option maxRecDepth 100000 in
set_option maxHeartbeats 2000000 in
theorem rClosing_any (v : Int) (s vf : Value) (css : List (List Int)) (facts : List Int) (w : World) (hr : Rds w s css) (hf : Rd w vf facts) (h1 : frm v css = true) (h2 : facts.all fmd = true) (hN : css.length ≤ 1073741824) :
    Calls Tryd.prog 33 #[.agg #[.int .i64 v, s], vf] w fun e w' => Cg w css facts e w' := by
  have HR : Hid (Rds w s css ∧ Rd w vf facts ∧ frm v css = true ∧ facts.all fmd = true) := ⟨hr, hf, h1, h2⟩
  have HUp : Hid (Upt (topL css facts).toNat facts ∧ (∀ c ∈ css, Upt (topL css facts).toNat c) ∧ (topL css facts).toNat ≤ 1048576) := ⟨upt_facts h2, upt_css h1, by have := (top_range css facts).2.1; omega⟩
  have HAd : Hid (adj (tid facts) = false ↔ Con facts) := adj_con h2
  have HB1 : Hid (Below w.heap.size w (w.alloc (.cells #[.int .i64 v, s] 24))) := below_box _ _
  have k0 := box0 w (.int .i64 v) s 24
  have k1 := box1 w (.int .i64 v) s 24
  have hbs : w.heap.size < (w.alloc (.cells #[.int .i64 v, s] 24)).heap.size := by rw [World.size_alloc]; exact Nat.lt_succ_self _
  have HX0 : Hid (∀ W, Below (w.alloc (.cells #[.int .i64 v, s] 24)).heap.size (w.alloc (.cells #[.int .i64 v, s] 24)) W → W.cell? ⟨w.heap.size, 0, none⟩ = some (.int .i64 v) ∧ W.cell? ⟨w.heap.size, 1, none⟩ = some s) := fun W hW => ⟨(hW.cell (p := ⟨w.heap.size, 0, none⟩) hbs).trans k0, (hW.cell (p := ⟨w.heap.size, 1, none⟩) hbs).trans k1⟩
  obtain ⟨aS, cS, rfl, hl3, hl4, -⟩ := hr.form
  clear hr hf h1 h2 k0 k1 hbs
  go_enter Tryd.func33, Tryd.ntmps33
  go_wp2_with fail
  refine (rGiven_any v _ _ css facts _ (HR.out.1.below (below_box _ _)) (HR.out.2.1.below (below_box _ _)) HR.out.2.2.1 HR.out.2.2.2).mono ?_
  rintro e w2 ⟨g, rfl, hvz, bel2⟩
  generalize w.alloc (.cells #[.int .i64 v, .slice aS css.length cS] 24) = W0 at *
  have HB2 : Hid (Below W0.heap.size W0 w2) := bel2
  generalize hTe : (topL css facts).toNat = T at *
  have HTT : Hid ((topL css facts).toNat = T) := hTe
  clear hTe
  cases had : adj (tid facts)
  · have HCon : Hid (Con facts) := HAd.out.1 had
    have HVz : Hid (Vz W0.heap.size w2 g (T + 1) T facts ∧ W0.heap.size ≤ g) := ⟨hvz had, ((hvz had).lt g rfl).1⟩
    have HRi : Hid (Ri css facts T facts) := ⟨HCon.out, fun x h => h, fun x h => .fact h, HUp.out.1⟩
    clear hvz bel2 had
    go_wp2
    go_loopg [8, 9] (2 * mes css facts + 1) (fun q n' c' wr => ∃ (n : Nat) (cl : Bool) (L : List Int), q = 2 * mes css L + (if 0 < n ∧ cl = false then 1 else 0) ∧ n' = .int .i64 (n : Int) ∧ c' = .bool cl ∧ Ri css facts T L ∧ Vz W0.heap.size wr g (T + 1) T L ∧ Below W0.heap.size W0 wr ∧ (cl = true → Cla css facts) ∧ (cl = false → n = 0 → Calm css L) ∧ n ≤ 1073741824)
    case atStart => exact ⟨1, false, facts, by simp, rfl, rfl, HRi.out, HVz.out.1, HB2.out, fun h => Bool.noConfusion h, fun _ h => by omega, by omega⟩
    case round =>
      obtain ⟨n, cl, L, hq, rfl, rfl, hri, hv, hb, hcl, hcm, hnb⟩ := hrel
      have HQ : Hid (gk = 2 * mes css L + (if 0 < n ∧ cl = false then 1 else 0)) := hq
      have HS : Hid (Ri css facts T L ∧ Vz W0.heap.size wr g (T + 1) T L ∧ Below W0.heap.size W0 wr ∧ (cl = true → Cla css facts) ∧ (cl = false → n = 0 → Calm css L)) := ⟨hri, hv, hb, hcl, hcm⟩
      obtain ⟨c0, c1⟩ := HX0.out wr hb
      clear hq hri hv hb hcl hcm
      cases cl
      · by_cases hn : 0 < n
        · have HRs : Hid (∀ W, Below W0.heap.size wr W → Rds W (.slice aS css.length cS) css) := fun W hW => HR.out.1.below (Below.step HB1.out (HS.out.2.2.1.trans hW))
          have HN : Hid (0 < n) := hn
          go_wp2_with fail
          refine (rRound_any W0.heap.size g T v _ css facts L wr (HRs.out wr (Below.refl _ _)) HS.out.2.1 HUp.out.2.2 HUp.out.2.1 HS.out.1 hN (fun W hW => rds_apart HRs.out HVz.out.2 hW HS.out.2.2.1.size)).mono ?_
          rintro e w3 ⟨n3, cl3, L3, rfl, hv3, hri3, hme3, hcl3, hcm3, hy3, hg3, hn3⟩
          have HN3 : Hid (n3 ≤ 1073741824) := Nat.le_trans hn3 hN
          have HF : Hid (Ri css facts T L3 ∧ Vz W0.heap.size w3 g (T + 1) T L3 ∧ Below W0.heap.size W0 w3 ∧ (cl3 = true → Cla css facts) ∧ (cl3 = false → n3 = 0 → Calm css L3)) := ⟨hri3, hv3, HS.out.2.2.1.grown hg3 HS.out.2.2.1.size (fun q e => by injection e with e; subst e; exact HVz.out.2), hcl3, hcm3⟩
          have HM : Hid (2 * mes css L3 + (if 0 < n3 ∧ cl3 = false then 1 else 0) < gk) := by
            have h5 := HQ.out
            rw [if_pos (by simpa using HN.out)] at h5
            show _ < gk
            split
            · rename_i h6; have := hy3 h6.1; omega
            · omega
          clear hv3 hri3 hme3 hcl3 hcm3 hy3 hg3 c0 c1 hn3
          go_wp2
          go_roundg (2 * mes css L3 + (if 0 < n3 ∧ cl3 = false then 1 else 0))
          case measure => exact HM.out
          case rel => exact ⟨n3, cl3, L3, rfl, rfl, rfl, HF.out.1, HF.out.2.1, HF.out.2.2.1, HF.out.2.2.2.1, HF.out.2.2.2.2, HN3.out⟩
        · have HFin := HS.out.1.fin (HS.out.2.2.2.2 rfl (by omega))
          have HFin : Hid (¬ Cla css facts ∧ ∀ x, Der css facts x ↔ x ∈ L) := HFin
          obtain rfl : n = 0 := by omega
          go_wp2
          go_ret2
          exact ⟨g, false, by rw [HTT.out]; rfl, Below.step HB1.out HS.out.2.2.1, fun h => Bool.noConfusion h, fun _ => ⟨L, by rw [HTT.out]; exact row_mono HS.out.2.1 HB1.out.size, HS.out.1.con, by rw [HTT.out]; exact HS.out.1.upt, HFin.out.1, HFin.out.2⟩⟩
      · have HC : Hid (Cla css facts) := HS.out.2.2.2.1 rfl
        go_wp2
        all_goals
          go_ret2
          exact ⟨g, true, by rw [HTT.out]; rfl, Below.step HB1.out HS.out.2.2.1, fun _ => HC.out, fun h => Bool.noConfusion h⟩
  · have HC : Hid (Cla css facts) := not_con_cla fun hc => by have := HAd.out.2 hc; rw [had] at this; cases this
    clear hvz
    go_wp2
    go_ret2
    exact ⟨g, true, by rw [HTT.out]; rfl, Below.step HB1.out HB2.out, fun _ => HC.out, fun h => Bool.noConfusion h⟩
end Go.Proofs.YtijhabhbeambeaaDoor
set_option linter.unusedSimpArgs false
set_option linter.unusedVariables false
namespace Go.Proofs.YtijhabhbeambeaaDoor
open Go Go.RowKit
set_option maxRecDepth 100000 in
theorem sameC_any (va vb : Value) (cs : List (Int × Nat)) (w : World) (ha : w.ownsRow 0 78 2 va cs.length (twc cs)) (hb : w.ownsRow 0 78 2 vb cs.length (twc cs)) (hn : cs.length ≤ 2097152) :
    Calls Tryd.prog 19 #[va, vb] w fun e w' => e = .returned (.bool true) ∧ Below w.heap.size w w' := by
  have HC : Hid (∀ {v : Value}, w.ownsRow 0 78 2 v cs.length (twc cs) → ∃ a c, v = .slice a cs.length c ∧ ∀ (W : World) (j : Nat) (hj : j < cs.length), Below w.heap.size w W → ∃ g, a = some ⟨g, 0, none⟩ ∧ cs.length ≤ c ∧ c ≤ maxLen ∧ W.cell? ⟨g, j * 2, none⟩ = some (.int .i64 (cs[j]).1) ∧ W.cell? ⟨g, j * 2 + 1, none⟩ = some (.int .i64 ((cs[j]).2 : Int))) := fun {v} h1 => by
    obtain ⟨a, c, e⟩ := row_form' h1
    refine ⟨a, c, e, fun W j hj hW => ?_⟩
    obtain ⟨g, c', e', h2, h3, h4⟩ := row_some h1 (by omega)
    rw [e] at e'
    injection e' with e1 _ e3
    subst e1; subst e3
    rw [e] at h1
    obtain ⟨k1, k2⟩ := twc_at (show cs[j]? = some ((cs[j]).1, (cs[j]).2) from List.getElem?_eq_getElem hj)
    exact ⟨g, rfl, h2, h3, (hW.cell (p := ⟨g, j * 2, none⟩) h4).trans (row_cell h1 k1), (hW.cell (p := ⟨g, j * 2 + 1, none⟩) h4).trans (row_cell h1 k2)⟩
  obtain ⟨a1, c1, rfl, H1⟩ := HC.out ha
  obtain ⟨a2, c2, rfl, H2⟩ := HC.out hb
  have H1 : Hid (∀ (W : World) (j : Nat) (hj : j < cs.length), Below w.heap.size w W → ∃ g, a1 = some ⟨g, 0, none⟩ ∧ cs.length ≤ c1 ∧ c1 ≤ maxLen ∧ W.cell? ⟨g, j * 2, none⟩ = some (.int .i64 (cs[j]).1) ∧ W.cell? ⟨g, j * 2 + 1, none⟩ = some (.int .i64 ((cs[j]).2 : Int))) := H1
  have H2 : Hid (∀ (W : World) (j : Nat) (hj : j < cs.length), Below w.heap.size w W → ∃ g, a2 = some ⟨g, 0, none⟩ ∧ cs.length ≤ c2 ∧ c2 ≤ maxLen ∧ W.cell? ⟨g, j * 2, none⟩ = some (.int .i64 (cs[j]).1) ∧ W.cell? ⟨g, j * 2 + 1, none⟩ = some (.int .i64 ((cs[j]).2 : Int))) := H2
  clear ha hb HC
  go_enter Tryd.func19, Tryd.ntmps19
  go_wp2
  go_loopg [5] cs.length (fun g i' wr => ∃ k : Nat, k + g = cs.length ∧ i' = .int .i64 k ∧ Below w.heap.size w wr)
  case atStart => exact ⟨0, by omega, rfl, Below.refl _ _⟩
  case round =>
    obtain ⟨k, hk, rfl, hb⟩ := hrel
    have HK : Hid (k + gk = cs.length) := hk
    have HB : Hid (Below w.heap.size w wr) := hb
    clear hk hb
    by_cases hlt : k < cs.length
    · obtain ⟨g1, rfl, l1, m1, x1, x2⟩ := H1.out wr k hlt HB.out
      obtain ⟨g2, rfl, l2, m2, y1, y2⟩ := H2.out wr k hlt HB.out
      have HLT : Hid (k < cs.length) := hlt
      generalize (cs[k]).1 = l at *
      generalize ((cs[k]).2 : Int) = q at *
      go_upto_region 6 with fail
      go_region_law (fail)
      all_goals
        have HB2 : Hid (Below w.heap.size w wr.drew) := Below.step HB.out (Below.refl _ _).drew
        go_wp2
        go_roundg (gk - 1)
        case measure => have := HK.out; have := HLT.out; omega
        case rel => exact ⟨k + 1, by have := HK.out; have := HLT.out; omega, by go_num, HB2.out⟩
    · go_wp2
      go_ret
      exact ⟨rfl, HB.out⟩
theorem wy_len {w w' : World} {v : Int} {css : List (List Int)} {facts : List Int} {u : Value} {cs : List (Int × Nat)} {e0 : Int} (h : Wy w w' v css facts u cs e0) : cs.length ≤ 2097152 := by
  by_cases h0 : whyE v css facts = 0
  · refine (h.yes h0).few (frm_fmd (v := v) ?_)
    unfold whyE at h0
    cases hh : frm v css
    · rw [hh] at h0; simp at h0
    · rfl
  · rw [(h.no h0).2.1]; simp
theorem wy_eq {w w' w2 w2' : World} {v : Int} {css : List (List Int)} {facts : List Int} {u u' : Value} {cs cs' : List (Int × Nat)} {e0 e0' : Int} (h : Wy w w' v css facts u cs e0) (h' : Wy w2 w2' v css facts u' cs' e0') : cs = cs' ∧ e0 = e0' := by
  by_cases h0 : whyE v css facts = 0
  · exact (h.yes h0).unique (h'.yes h0)
  · obtain ⟨_, a, b⟩ := h.no h0
    obtain ⟨_, a', b'⟩ := h'.no h0
    exact ⟨by rw [a, a'], by rw [b, b']⟩
namespace unitWhys
end unitWhys
end Go.Proofs.YtijhabhbeambeaaDoor

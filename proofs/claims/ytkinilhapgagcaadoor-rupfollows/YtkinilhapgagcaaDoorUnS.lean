/-
  unit: begin, the closing as it is made.
  KEEP: set on app at below new trans refl start ap kept rd rds mono lt add none own nil put len pos setF setV putL putR other neV same_any
-/
import Derived.Test.YtkinilhapgagcaaDoorUnG
import Derived.Test.YtkinilhapgagcaaDoorAnyInv
set_option linter.unusedSimpArgs false
set_option linter.unusedVariables false
namespace Go.Proofs.YtkinilhapgagcaaDoor
open Go Go.RowKit

theorem infoB6 : (Tryd.prog.info? 4).map (fun i => (i.zero, i.size, i.bytes)) = some (some (.bool false), 1, 1) := by kernel_rfl
theorem infoI6 : (Tryd.prog.info? 21).map (fun i => (i.zero, i.size, i.bytes)) = some (some (.int .i32 0), 1, 4) := by kernel_rfl
theorem infoP6 : (Tryd.prog.info? 99).map (fun i => (i.zero, i.size, i.bytes)) = some (some (.agg #[.int .i32 0, .int .i32 0]), 2, 8) := by kernel_rfl
def upd (L : Nat → Bool) (i : Nat) : Nat → Bool := fun j => j == i || L j
def Mk (w W : World) (g : Nat) (e : TypeId) (z : Value) (m : Nat) : Prop := W.heap[g]? = some (.cells (madeCells #[z] m) e (0, 0)) ∧ w.heap.size ≤ g
theorem Mk.lift {w W W' : World} {g : Nat} {e : TypeId} {z : Value} {m : Nat} (h : Mk w W g e z m) (hb : Below W.heap.size W W') : Mk w W' g e z m := ⟨(hb.block g (Array.getElem?_eq_some_iff.1 h.1).1).trans h.1, h.2⟩
theorem Mk.new {w W : World} (e : TypeId) (z : Value) (m : Nat) (h : w.heap.size ≤ W.heap.size) : Mk w (W.alloc (.cells (madeCells #[z] m) e)) W.heap.size e z m := ⟨World.alloc_heap_new W _, h⟩
/-- the places' row as it is made: one place, room for m more -/
def MkP (w W : World) (g m : Nat) : Prop := W.heap[g]? = some (.cells (madeCells #[.int .i32 0, .int .i32 0] ((m + 1) * 2)) 99 (0, 0)) ∧ w.heap.size ≤ g
theorem made_place (m : Nat) (hm : m ≤ 2147483648) (w : World) :
    (Instr.makeSlice 76 (.int .i64 1) (.int .i64 ((m : Int) + 1))).run Tryd.prog w = .ok (.slice (some ⟨w.heap.size, 0, none⟩) 1 (m + 1)) (w.alloc (.cells (madeCells #[.int .i32 0, .int .i32 0] ((m + 1) * 2)) 99)) := by
  obtain ⟨i, hi, hz, hs, hb⟩ := info_parts infoP6
  have hr := run_make (P := Tryd.prog) w 76 99 i _ Tryd.underlying76 hi hz .i64 .i64 1 ((m : Int) + 1) (by omega) (by omega) (by rw [hb]; omega) (by omega)
  have e1 : ((m : Int) + 1).toNat = m + 1 := by omega
  simp only [e1, hs] at hr
  exact hr
structure Bg (w w1 : World) (v : Int) (s : Value) (N sz n bx : Nat) (L : Nat → Bool) (W : World) (x4 x10 x11 x12 x13 x14 x15 x16 x17 x18 x19 x20 x21 x22 x23 x24 x25 x26 x27 x28 x29 : Value) : Prop where
  bel : Below w1.heap.size w1 W
  f0 : L 0 = true → x10 = .pointer (some ⟨bx, 1, none⟩)
  f1 : L 1 = true → x11 = s
  f2 : L 2 = true → x12 = .int .i64 (n : Int)
  f3 : L 3 = true → ∃ g, x13 = .slice (some ⟨g, 0, none⟩) n n ∧ Mk w W g 4 (.bool false) n
  f4 : L 4 = true → x14 = .pointer (some ⟨bx, 1, none⟩)
  f5 : L 5 = true → x15 = s
  f6 : L 6 = true → x16 = .int .i64 (N : Int)
  f7 : L 7 = true → ∃ g, x17 = .slice (some ⟨g, 0, none⟩) N N ∧ Mk w W g 21 (.int .i32 0) N
  f8 : L 8 = true → x18 = .int .i64 (n : Int)
  f9 : L 9 = true → ∃ g, x19 = .slice (some ⟨g, 0, none⟩) n n ∧ Mk w W g 21 (.int .i32 0) n
  f10 : L 10 = true → x20 = .agg #[.int .i64 v, s]
  f11 : L 11 = true → x21 = .int .i64 (sz : Int)
  f12 : L 12 = true → x22 = .int .i64 ((sz : Int) + 1)
  f13 : L 13 = true → ∃ g, x23 = .slice (some ⟨g, 0, none⟩) 1 (sz + 1) ∧ MkP w W g sz
  f14 : L 14 = true → x24 = .pointer (some ⟨bx, 1, none⟩)
  f15 : L 15 = true → x25 = s
  f16 : L 16 = true → x26 = .int .i64 (N : Int)
  f17 : L 17 = true → ∃ fs, Wq w.heap.size W x27 fs N (fun _ => false)
  f18 : L 18 = true → x28 = .agg #[x11, x13, x17, x19, x23, x27, .slice none 0 0]
  f19 : L 19 = true → ∃ b, x29 = .pointer (some ⟨b, 0, none⟩) ∧ W.heap[b]? = some (.cells #[x11, x13, x17, x19, x23, x27, .slice none 0 0] 80 (0, 0)) ∧ w.heap.size ≤ b
  f20 : L 20 = true → x4 = x29
  f79 : L 7 = true → L 9 = true → x17.ownBlock ≠ x19.ownBlock
  c18 : L 18 = true → L 1 = true ∧ L 3 = true ∧ L 7 = true ∧ L 9 = true ∧ L 13 = true ∧ L 17 = true
  c19 : L 19 = true → L 18 = true
  c20 : L 20 = true → L 19 = true
theorem Bg.lift {w w1 : World} {v : Int} {s : Value} {N sz n bx : Nat} {L : Nat → Bool} {W W' : World} {x4 x10 x11 x12 x13 x14 x15 x16 x17 x18 x19 x20 x21 x22 x23 x24 x25 x26 x27 x28 x29 : Value} (h : Bg w w1 v s N sz n bx L W x4 x10 x11 x12 x13 x14 x15 x16 x17 x18 x19 x20 x21 x22 x23 x24 x25 x26 x27 x28 x29) (hb : Below W.heap.size W W') : Bg w w1 v s N sz n bx L W' x4 x10 x11 x12 x13 x14 x15 x16 x17 x18 x19 x20 x21 x22 x23 x24 x25 x26 x27 x28 x29 :=
  ⟨Below.step h.bel hb, h.f0, h.f1, h.f2, fun hl => by obtain ⟨g, e, m⟩ := h.f3 hl; exact ⟨g, e, m.lift hb⟩, h.f4, h.f5, h.f6, fun hl => by obtain ⟨g, e, m⟩ := h.f7 hl; exact ⟨g, e, m.lift hb⟩, h.f8, fun hl => by obtain ⟨g, e, m⟩ := h.f9 hl; exact ⟨g, e, m.lift hb⟩, h.f10, h.f11, h.f12, fun hl => by obtain ⟨g, e, m1, m2⟩ := h.f13 hl; exact ⟨g, e, (hb.block g (Array.getElem?_eq_some_iff.1 m1).1).trans m1, m2⟩, h.f14, h.f15, h.f16, fun hl => by obtain ⟨fs, m⟩ := h.f17 hl; exact ⟨fs, m.below hb⟩, h.f18, fun hl => by obtain ⟨b, e, m1, m2⟩ := h.f19 hl; exact ⟨b, e, (hb.block b (Array.getElem?_eq_some_iff.1 m1).1).trans m1, m2⟩, h.f20, h.f79, h.c18, h.c19, h.c20⟩
def BgI (w w1 : World) (v : Int) (s : Value) (N sz n bx : Nat) (y7 y8 y9 : Value) (listed : Array Bool) (a : Act) (W : World) : Prop :=
  listed.size = 21 ∧ ∃ L : Nat → Bool, (∀ j, j < 21 → listed.getD j false = L j) ∧ ∃ x4 x10 x11 x12 x13 x14 x15 x16 x17 x18 x19 x20 x21 x22 x23 x24 x25 x26 x27 x28 x29 : Value, a = ({ tmps := #[.agg #[.int .i64 v, s], .pointer (some ⟨bx, 0, none⟩), .pointer none, .int .i64 (n : Int), x4, undef, undef, y7, y8, y9, x10, x11, x12, x13, x14, x15, x16, x17, x18, x19, x20, x21, x22, x23, x24, x25, x26, x27, x28, x29, undef, undef, undef, undef, undef, undef, undef, undef, undef, undef, undef, undef, undef, undef, undef], defers := [] } : Act) ∧ Bg w w1 v s N sz n bx L W x4 x10 x11 x12 x13 x14 x15 x16 x17 x18 x19 x20 x21 x22 x23 x24 x25 x26 x27 x28 x29
theorem lnk {listed : Array Bool} {L : Nat → Bool} (hs : listed.size = 21) (h : ∀ j, j < 21 → listed.getD j false = L j) {i : Nat} (hi : i < 21) : (listed.setIfInBounds i true).size = 21 ∧ ∀ j, j < 21 → (listed.setIfInBounds i true).getD j false = upd L i j := by
  refine ⟨by simpa using hs, fun j hj => ?_⟩
  rw [set_getD false (by rw [hs]; exact hi), h j hj]
  rfl
theorem Bg.s0 {w w1 : World} {v : Int} {s : Value} {N sz n bx : Nat} {L : Nat → Bool} {W : World} {x4 x10 x11 x12 x13 x14 x15 x16 x17 x18 x19 x20 x21 x22 x23 x24 x25 x26 x27 x28 x29 : Value} (h : Bg w w1 v s N sz n bx L W x4 x10 x11 x12 x13 x14 x15 x16 x17 x18 x19 x20 x21 x22 x23 x24 x25 x26 x27 x28 x29)  : Bg w w1 v s N sz n bx (upd L 0) W x4 (.pointer (some ⟨bx, 1, none⟩)) x11 x12 x13 x14 x15 x16 x17 x18 x19 x20 x21 x22 x23 x24 x25 x26 x27 x28 x29 := by
  have h2 := h.lift (W' := W) (Below.refl _ _)
  exact ⟨h2.bel, fun _ => rfl, h2.f1, h2.f2, h2.f3, h2.f4, h2.f5, h2.f6, h2.f7, h2.f8, h2.f9, h2.f10, h2.f11, h2.f12, h2.f13, h2.f14, h2.f15, h2.f16, h2.f17, h2.f18, h2.f19, h2.f20, h2.f79, h2.c18, h2.c19, h2.c20⟩
theorem Bg.s2 {w w1 : World} {v : Int} {s : Value} {N sz n bx : Nat} {L : Nat → Bool} {W : World} {x4 x10 x11 x12 x13 x14 x15 x16 x17 x18 x19 x20 x21 x22 x23 x24 x25 x26 x27 x28 x29 : Value} (h : Bg w w1 v s N sz n bx L W x4 x10 x11 x12 x13 x14 x15 x16 x17 x18 x19 x20 x21 x22 x23 x24 x25 x26 x27 x28 x29)  : Bg w w1 v s N sz n bx (upd L 2) W x4 x10 x11 (.int .i64 (n : Int)) x13 x14 x15 x16 x17 x18 x19 x20 x21 x22 x23 x24 x25 x26 x27 x28 x29 := by
  have h2 := h.lift (W' := W) (Below.refl _ _)
  exact ⟨h2.bel, h2.f0, h2.f1, fun _ => rfl, h2.f3, h2.f4, h2.f5, h2.f6, h2.f7, h2.f8, h2.f9, h2.f10, h2.f11, h2.f12, h2.f13, h2.f14, h2.f15, h2.f16, h2.f17, h2.f18, h2.f19, h2.f20, h2.f79, h2.c18, h2.c19, h2.c20⟩
theorem Bg.s4 {w w1 : World} {v : Int} {s : Value} {N sz n bx : Nat} {L : Nat → Bool} {W : World} {x4 x10 x11 x12 x13 x14 x15 x16 x17 x18 x19 x20 x21 x22 x23 x24 x25 x26 x27 x28 x29 : Value} (h : Bg w w1 v s N sz n bx L W x4 x10 x11 x12 x13 x14 x15 x16 x17 x18 x19 x20 x21 x22 x23 x24 x25 x26 x27 x28 x29)  : Bg w w1 v s N sz n bx (upd L 4) W x4 x10 x11 x12 x13 (.pointer (some ⟨bx, 1, none⟩)) x15 x16 x17 x18 x19 x20 x21 x22 x23 x24 x25 x26 x27 x28 x29 := by
  have h2 := h.lift (W' := W) (Below.refl _ _)
  exact ⟨h2.bel, h2.f0, h2.f1, h2.f2, h2.f3, fun _ => rfl, h2.f5, h2.f6, h2.f7, h2.f8, h2.f9, h2.f10, h2.f11, h2.f12, h2.f13, h2.f14, h2.f15, h2.f16, h2.f17, h2.f18, h2.f19, h2.f20, h2.f79, h2.c18, h2.c19, h2.c20⟩
theorem Bg.s5 {w w1 : World} {v : Int} {s : Value} {N sz n bx : Nat} {L : Nat → Bool} {W : World} {x4 x10 x11 x12 x13 x14 x15 x16 x17 x18 x19 x20 x21 x22 x23 x24 x25 x26 x27 x28 x29 : Value} (h : Bg w w1 v s N sz n bx L W x4 x10 x11 x12 x13 x14 x15 x16 x17 x18 x19 x20 x21 x22 x23 x24 x25 x26 x27 x28 x29)  : Bg w w1 v s N sz n bx (upd L 5) W x4 x10 x11 x12 x13 x14 (s) x16 x17 x18 x19 x20 x21 x22 x23 x24 x25 x26 x27 x28 x29 := by
  have h2 := h.lift (W' := W) (Below.refl _ _)
  exact ⟨h2.bel, h2.f0, h2.f1, h2.f2, h2.f3, h2.f4, fun _ => rfl, h2.f6, h2.f7, h2.f8, h2.f9, h2.f10, h2.f11, h2.f12, h2.f13, h2.f14, h2.f15, h2.f16, h2.f17, h2.f18, h2.f19, h2.f20, h2.f79, h2.c18, h2.c19, h2.c20⟩
theorem Bg.s6 {w w1 : World} {v : Int} {s : Value} {N sz n bx : Nat} {L : Nat → Bool} {W : World} {x4 x10 x11 x12 x13 x14 x15 x16 x17 x18 x19 x20 x21 x22 x23 x24 x25 x26 x27 x28 x29 : Value} (h : Bg w w1 v s N sz n bx L W x4 x10 x11 x12 x13 x14 x15 x16 x17 x18 x19 x20 x21 x22 x23 x24 x25 x26 x27 x28 x29)  : Bg w w1 v s N sz n bx (upd L 6) W x4 x10 x11 x12 x13 x14 x15 (.int .i64 (N : Int)) x17 x18 x19 x20 x21 x22 x23 x24 x25 x26 x27 x28 x29 := by
  have h2 := h.lift (W' := W) (Below.refl _ _)
  exact ⟨h2.bel, h2.f0, h2.f1, h2.f2, h2.f3, h2.f4, h2.f5, fun _ => rfl, h2.f7, h2.f8, h2.f9, h2.f10, h2.f11, h2.f12, h2.f13, h2.f14, h2.f15, h2.f16, h2.f17, h2.f18, h2.f19, h2.f20, h2.f79, h2.c18, h2.c19, h2.c20⟩
theorem Bg.s8 {w w1 : World} {v : Int} {s : Value} {N sz n bx : Nat} {L : Nat → Bool} {W : World} {x4 x10 x11 x12 x13 x14 x15 x16 x17 x18 x19 x20 x21 x22 x23 x24 x25 x26 x27 x28 x29 : Value} (h : Bg w w1 v s N sz n bx L W x4 x10 x11 x12 x13 x14 x15 x16 x17 x18 x19 x20 x21 x22 x23 x24 x25 x26 x27 x28 x29)  : Bg w w1 v s N sz n bx (upd L 8) W x4 x10 x11 x12 x13 x14 x15 x16 x17 (.int .i64 (n : Int)) x19 x20 x21 x22 x23 x24 x25 x26 x27 x28 x29 := by
  have h2 := h.lift (W' := W) (Below.refl _ _)
  exact ⟨h2.bel, h2.f0, h2.f1, h2.f2, h2.f3, h2.f4, h2.f5, h2.f6, h2.f7, fun _ => rfl, h2.f9, h2.f10, h2.f11, h2.f12, h2.f13, h2.f14, h2.f15, h2.f16, h2.f17, h2.f18, h2.f19, h2.f20, h2.f79, h2.c18, h2.c19, h2.c20⟩
theorem Bg.s10 {w w1 : World} {v : Int} {s : Value} {N sz n bx : Nat} {L : Nat → Bool} {W : World} {x4 x10 x11 x12 x13 x14 x15 x16 x17 x18 x19 x20 x21 x22 x23 x24 x25 x26 x27 x28 x29 : Value} (h : Bg w w1 v s N sz n bx L W x4 x10 x11 x12 x13 x14 x15 x16 x17 x18 x19 x20 x21 x22 x23 x24 x25 x26 x27 x28 x29)  : Bg w w1 v s N sz n bx (upd L 10) W x4 x10 x11 x12 x13 x14 x15 x16 x17 x18 x19 (.agg #[.int .i64 v, s]) x21 x22 x23 x24 x25 x26 x27 x28 x29 := by
  have h2 := h.lift (W' := W) (Below.refl _ _)
  exact ⟨h2.bel, h2.f0, h2.f1, h2.f2, h2.f3, h2.f4, h2.f5, h2.f6, h2.f7, h2.f8, h2.f9, fun _ => rfl, h2.f11, h2.f12, h2.f13, h2.f14, h2.f15, h2.f16, h2.f17, h2.f18, h2.f19, h2.f20, h2.f79, h2.c18, h2.c19, h2.c20⟩
theorem Bg.s12 {w w1 : World} {v : Int} {s : Value} {N sz n bx : Nat} {L : Nat → Bool} {W : World} {x4 x10 x11 x12 x13 x14 x15 x16 x17 x18 x19 x20 x21 x22 x23 x24 x25 x26 x27 x28 x29 : Value} (h : Bg w w1 v s N sz n bx L W x4 x10 x11 x12 x13 x14 x15 x16 x17 x18 x19 x20 x21 x22 x23 x24 x25 x26 x27 x28 x29)  : Bg w w1 v s N sz n bx (upd L 12) W x4 x10 x11 x12 x13 x14 x15 x16 x17 x18 x19 x20 x21 (.int .i64 ((sz : Int) + 1)) x23 x24 x25 x26 x27 x28 x29 := by
  have h2 := h.lift (W' := W) (Below.refl _ _)
  exact ⟨h2.bel, h2.f0, h2.f1, h2.f2, h2.f3, h2.f4, h2.f5, h2.f6, h2.f7, h2.f8, h2.f9, h2.f10, h2.f11, fun _ => rfl, h2.f13, h2.f14, h2.f15, h2.f16, h2.f17, h2.f18, h2.f19, h2.f20, h2.f79, h2.c18, h2.c19, h2.c20⟩
theorem Bg.s14 {w w1 : World} {v : Int} {s : Value} {N sz n bx : Nat} {L : Nat → Bool} {W : World} {x4 x10 x11 x12 x13 x14 x15 x16 x17 x18 x19 x20 x21 x22 x23 x24 x25 x26 x27 x28 x29 : Value} (h : Bg w w1 v s N sz n bx L W x4 x10 x11 x12 x13 x14 x15 x16 x17 x18 x19 x20 x21 x22 x23 x24 x25 x26 x27 x28 x29)  : Bg w w1 v s N sz n bx (upd L 14) W x4 x10 x11 x12 x13 x14 x15 x16 x17 x18 x19 x20 x21 x22 x23 (.pointer (some ⟨bx, 1, none⟩)) x25 x26 x27 x28 x29 := by
  have h2 := h.lift (W' := W) (Below.refl _ _)
  exact ⟨h2.bel, h2.f0, h2.f1, h2.f2, h2.f3, h2.f4, h2.f5, h2.f6, h2.f7, h2.f8, h2.f9, h2.f10, h2.f11, h2.f12, h2.f13, fun _ => rfl, h2.f15, h2.f16, h2.f17, h2.f18, h2.f19, h2.f20, h2.f79, h2.c18, h2.c19, h2.c20⟩
theorem Bg.s15 {w w1 : World} {v : Int} {s : Value} {N sz n bx : Nat} {L : Nat → Bool} {W : World} {x4 x10 x11 x12 x13 x14 x15 x16 x17 x18 x19 x20 x21 x22 x23 x24 x25 x26 x27 x28 x29 : Value} (h : Bg w w1 v s N sz n bx L W x4 x10 x11 x12 x13 x14 x15 x16 x17 x18 x19 x20 x21 x22 x23 x24 x25 x26 x27 x28 x29)  : Bg w w1 v s N sz n bx (upd L 15) W x4 x10 x11 x12 x13 x14 x15 x16 x17 x18 x19 x20 x21 x22 x23 x24 (s) x26 x27 x28 x29 := by
  have h2 := h.lift (W' := W) (Below.refl _ _)
  exact ⟨h2.bel, h2.f0, h2.f1, h2.f2, h2.f3, h2.f4, h2.f5, h2.f6, h2.f7, h2.f8, h2.f9, h2.f10, h2.f11, h2.f12, h2.f13, h2.f14, fun _ => rfl, h2.f16, h2.f17, h2.f18, h2.f19, h2.f20, h2.f79, h2.c18, h2.c19, h2.c20⟩
theorem Bg.s16 {w w1 : World} {v : Int} {s : Value} {N sz n bx : Nat} {L : Nat → Bool} {W : World} {x4 x10 x11 x12 x13 x14 x15 x16 x17 x18 x19 x20 x21 x22 x23 x24 x25 x26 x27 x28 x29 : Value} (h : Bg w w1 v s N sz n bx L W x4 x10 x11 x12 x13 x14 x15 x16 x17 x18 x19 x20 x21 x22 x23 x24 x25 x26 x27 x28 x29)  : Bg w w1 v s N sz n bx (upd L 16) W x4 x10 x11 x12 x13 x14 x15 x16 x17 x18 x19 x20 x21 x22 x23 x24 x25 (.int .i64 (N : Int)) x27 x28 x29 := by
  have h2 := h.lift (W' := W) (Below.refl _ _)
  exact ⟨h2.bel, h2.f0, h2.f1, h2.f2, h2.f3, h2.f4, h2.f5, h2.f6, h2.f7, h2.f8, h2.f9, h2.f10, h2.f11, h2.f12, h2.f13, h2.f14, h2.f15, fun _ => rfl, h2.f17, h2.f18, h2.f19, h2.f20, h2.f79, h2.c18, h2.c19, h2.c20⟩
theorem Bg.s1 {w w1 : World} {v : Int} {s : Value} {N sz n bx : Nat} {L : Nat → Bool} {W : World} {x4 x10 x11 x12 x13 x14 x15 x16 x17 x18 x19 x20 x21 x22 x23 x24 x25 x26 x27 x28 x29 : Value} (h : Bg w w1 v s N sz n bx L W x4 x10 x11 x12 x13 x14 x15 x16 x17 x18 x19 x20 x21 x22 x23 x24 x25 x26 x27 x28 x29) (q18 : L 18 = false) (q19 : L 19 = false)  : Bg w w1 v s N sz n bx (upd L 1) W x4 x10 (s) x12 x13 x14 x15 x16 x17 x18 x19 x20 x21 x22 x23 x24 x25 x26 x27 x28 x29 := by
  have h2 := h.lift (W' := W) (Below.refl _ _)
  exact ⟨h2.bel, h2.f0, fun _ => rfl, h2.f2, h2.f3, h2.f4, h2.f5, h2.f6, h2.f7, h2.f8, h2.f9, h2.f10, h2.f11, h2.f12, h2.f13, h2.f14, h2.f15, h2.f16, h2.f17, fun hl => absurd (show L 18 = true from hl) (by rw [q18]; decide), fun hl => absurd (show L 19 = true from hl) (by rw [q19]; decide), h2.f20, h2.f79, fun hl => absurd (show L 18 = true from hl) (by rw [q18]; decide), h2.c19, h2.c20⟩
theorem Bg.s3 {w w1 : World} {v : Int} {s : Value} {N sz n bx : Nat} {L : Nat → Bool} {W : World} {x4 x10 x11 x12 x13 x14 x15 x16 x17 x18 x19 x20 x21 x22 x23 x24 x25 x26 x27 x28 x29 : Value} (h : Bg w w1 v s N sz n bx L W x4 x10 x11 x12 x13 x14 x15 x16 x17 x18 x19 x20 x21 x22 x23 x24 x25 x26 x27 x28 x29) (q18 : L 18 = false) (q19 : L 19 = false) (hw : w.heap.size ≤ W.heap.size) : Bg w w1 v s N sz n bx (upd L 3) (W.alloc (.cells (madeCells #[.bool false] n) 4)) x4 x10 x11 x12 (.slice (some ⟨W.heap.size, 0, none⟩) n n) x14 x15 x16 x17 x18 x19 x20 x21 x22 x23 x24 x25 x26 x27 x28 x29 := by
  have h2 := h.lift (W' := (W.alloc (.cells (madeCells #[.bool false] n) 4))) (below_box _ _)
  exact ⟨h2.bel, h2.f0, h2.f1, h2.f2, fun _ => ⟨_, rfl, Mk.new _ _ _ hw⟩, h2.f4, h2.f5, h2.f6, h2.f7, h2.f8, h2.f9, h2.f10, h2.f11, h2.f12, h2.f13, h2.f14, h2.f15, h2.f16, h2.f17, fun hl => absurd (show L 18 = true from hl) (by rw [q18]; decide), fun hl => absurd (show L 19 = true from hl) (by rw [q19]; decide), h2.f20, h2.f79, fun hl => absurd (show L 18 = true from hl) (by rw [q18]; decide), h2.c19, h2.c20⟩
theorem Bg.s7 {w w1 : World} {v : Int} {s : Value} {N sz n bx : Nat} {L : Nat → Bool} {W : World} {x4 x10 x11 x12 x13 x14 x15 x16 x17 x18 x19 x20 x21 x22 x23 x24 x25 x26 x27 x28 x29 : Value} (h : Bg w w1 v s N sz n bx L W x4 x10 x11 x12 x13 x14 x15 x16 x17 x18 x19 x20 x21 x22 x23 x24 x25 x26 x27 x28 x29) (q18 : L 18 = false) (q19 : L 19 = false) (hw : w.heap.size ≤ W.heap.size) : Bg w w1 v s N sz n bx (upd L 7) (W.alloc (.cells (madeCells #[.int .i32 0] N) 21)) x4 x10 x11 x12 x13 x14 x15 x16 (.slice (some ⟨W.heap.size, 0, none⟩) N N) x18 x19 x20 x21 x22 x23 x24 x25 x26 x27 x28 x29 := by
  have h2 := h.lift (W' := (W.alloc (.cells (madeCells #[.int .i32 0] N) 21))) (below_box _ _)
  exact ⟨h2.bel, h2.f0, h2.f1, h2.f2, h2.f3, h2.f4, h2.f5, h2.f6, fun _ => ⟨_, rfl, Mk.new _ _ _ hw⟩, h2.f8, h2.f9, h2.f10, h2.f11, h2.f12, h2.f13, h2.f14, h2.f15, h2.f16, h2.f17, fun hl => absurd (show L 18 = true from hl) (by rw [q18]; decide), fun hl => absurd (show L 19 = true from hl) (by rw [q19]; decide), h2.f20, fun _ hl e => by obtain ⟨g, eg, m⟩ := h.f9 (show L 9 = true from hl); subst eg; have := (Array.getElem?_eq_some_iff.1 m.1).1; simp [Value.ownBlock] at e; omega, fun hl => absurd (show L 18 = true from hl) (by rw [q18]; decide), h2.c19, h2.c20⟩
theorem Bg.s9 {w w1 : World} {v : Int} {s : Value} {N sz n bx : Nat} {L : Nat → Bool} {W : World} {x4 x10 x11 x12 x13 x14 x15 x16 x17 x18 x19 x20 x21 x22 x23 x24 x25 x26 x27 x28 x29 : Value} (h : Bg w w1 v s N sz n bx L W x4 x10 x11 x12 x13 x14 x15 x16 x17 x18 x19 x20 x21 x22 x23 x24 x25 x26 x27 x28 x29) (q18 : L 18 = false) (q19 : L 19 = false) (hw : w.heap.size ≤ W.heap.size) : Bg w w1 v s N sz n bx (upd L 9) (W.alloc (.cells (madeCells #[.int .i32 0] n) 21)) x4 x10 x11 x12 x13 x14 x15 x16 x17 x18 (.slice (some ⟨W.heap.size, 0, none⟩) n n) x20 x21 x22 x23 x24 x25 x26 x27 x28 x29 := by
  have h2 := h.lift (W' := (W.alloc (.cells (madeCells #[.int .i32 0] n) 21))) (below_box _ _)
  exact ⟨h2.bel, h2.f0, h2.f1, h2.f2, h2.f3, h2.f4, h2.f5, h2.f6, h2.f7, h2.f8, fun _ => ⟨_, rfl, Mk.new _ _ _ hw⟩, h2.f10, h2.f11, h2.f12, h2.f13, h2.f14, h2.f15, h2.f16, h2.f17, fun hl => absurd (show L 18 = true from hl) (by rw [q18]; decide), fun hl => absurd (show L 19 = true from hl) (by rw [q19]; decide), h2.f20, fun hl _ e => by obtain ⟨g, eg, m⟩ := h.f7 (show L 7 = true from hl); subst eg; have := (Array.getElem?_eq_some_iff.1 m.1).1; simp [Value.ownBlock] at e; omega, fun hl => absurd (show L 18 = true from hl) (by rw [q18]; decide), h2.c19, h2.c20⟩
theorem Bg.s11 {w w1 : World} {v : Int} {s : Value} {N sz n bx : Nat} {L : Nat → Bool} {W : World} {x4 x10 x11 x12 x13 x14 x15 x16 x17 x18 x19 x20 x21 x22 x23 x24 x25 x26 x27 x28 x29 : Value} (h : Bg w w1 v s N sz n bx L W x4 x10 x11 x12 x13 x14 x15 x16 x17 x18 x19 x20 x21 x22 x23 x24 x25 x26 x27 x28 x29) {W2 : World} (hb : Below W.heap.size W W2) : Bg w w1 v s N sz n bx (upd L 11) W2 x4 x10 x11 x12 x13 x14 x15 x16 x17 x18 x19 x20 (.int .i64 (sz : Int)) x22 x23 x24 x25 x26 x27 x28 x29 := by
  have h2 := h.lift (W' := W2) hb
  exact ⟨h2.bel, h2.f0, h2.f1, h2.f2, h2.f3, h2.f4, h2.f5, h2.f6, h2.f7, h2.f8, h2.f9, h2.f10, fun _ => rfl, h2.f12, h2.f13, h2.f14, h2.f15, h2.f16, h2.f17, h2.f18, h2.f19, h2.f20, h2.f79, h2.c18, h2.c19, h2.c20⟩
theorem Bg.s13 {w w1 : World} {v : Int} {s : Value} {N sz n bx : Nat} {L : Nat → Bool} {W : World} {x4 x10 x11 x12 x13 x14 x15 x16 x17 x18 x19 x20 x21 x22 x23 x24 x25 x26 x27 x28 x29 : Value} (h : Bg w w1 v s N sz n bx L W x4 x10 x11 x12 x13 x14 x15 x16 x17 x18 x19 x20 x21 x22 x23 x24 x25 x26 x27 x28 x29) (q18 : L 18 = false) (q19 : L 19 = false) (hw : w.heap.size ≤ W.heap.size) : Bg w w1 v s N sz n bx (upd L 13) (W.alloc (.cells (madeCells #[.int .i32 0, .int .i32 0] ((sz + 1) * 2)) 99)) x4 x10 x11 x12 x13 x14 x15 x16 x17 x18 x19 x20 x21 x22 (.slice (some ⟨W.heap.size, 0, none⟩) 1 (sz + 1)) x24 x25 x26 x27 x28 x29 := by
  have h2 := h.lift (W' := (W.alloc (.cells (madeCells #[.int .i32 0, .int .i32 0] ((sz + 1) * 2)) 99))) (below_box _ _)
  exact ⟨h2.bel, h2.f0, h2.f1, h2.f2, h2.f3, h2.f4, h2.f5, h2.f6, h2.f7, h2.f8, h2.f9, h2.f10, h2.f11, h2.f12, fun _ => ⟨_, rfl, World.alloc_heap_new W _, hw⟩, h2.f14, h2.f15, h2.f16, h2.f17, fun hl => absurd (show L 18 = true from hl) (by rw [q18]; decide), fun hl => absurd (show L 19 = true from hl) (by rw [q19]; decide), h2.f20, h2.f79, fun hl => absurd (show L 18 = true from hl) (by rw [q18]; decide), h2.c19, h2.c20⟩
theorem Bg.s17 {w w1 : World} {v : Int} {s : Value} {N sz n bx : Nat} {L : Nat → Bool} {W : World} {x4 x10 x11 x12 x13 x14 x15 x16 x17 x18 x19 x20 x21 x22 x23 x24 x25 x26 x27 x28 x29 : Value} (h : Bg w w1 v s N sz n bx L W x4 x10 x11 x12 x13 x14 x15 x16 x17 x18 x19 x20 x21 x22 x23 x24 x25 x26 x27 x28 x29) (q18 : L 18 = false) (q19 : L 19 = false) {W2 : World} {u : Value} {fs : List Value} (hb : Below W.heap.size W W2) (hq : Wq w.heap.size W2 u fs N (fun _ => false)) : Bg w w1 v s N sz n bx (upd L 17) W2 x4 x10 x11 x12 x13 x14 x15 x16 x17 x18 x19 x20 x21 x22 x23 x24 x25 x26 (u) x28 x29 := by
  have h2 := h.lift (W' := W2) hb
  exact ⟨h2.bel, h2.f0, h2.f1, h2.f2, h2.f3, h2.f4, h2.f5, h2.f6, h2.f7, h2.f8, h2.f9, h2.f10, h2.f11, h2.f12, h2.f13, h2.f14, h2.f15, h2.f16, fun _ => ⟨fs, hq⟩, fun hl => absurd (show L 18 = true from hl) (by rw [q18]; decide), fun hl => absurd (show L 19 = true from hl) (by rw [q19]; decide), h2.f20, h2.f79, fun hl => absurd (show L 18 = true from hl) (by rw [q18]; decide), h2.c19, h2.c20⟩
theorem Bg.s18 {w w1 : World} {v : Int} {s : Value} {N sz n bx : Nat} {L : Nat → Bool} {W : World} {x4 x10 x11 x12 x13 x14 x15 x16 x17 x18 x19 x20 x21 x22 x23 x24 x25 x26 x27 x28 x29 : Value} (h : Bg w w1 v s N sz n bx L W x4 x10 x11 x12 x13 x14 x15 x16 x17 x18 x19 x20 x21 x22 x23 x24 x25 x26 x27 x28 x29) (hc : L 1 = true ∧ L 3 = true ∧ L 7 = true ∧ L 9 = true ∧ L 13 = true ∧ L 17 = true) : Bg w w1 v s N sz n bx (upd L 18) W x4 x10 x11 x12 x13 x14 x15 x16 x17 x18 x19 x20 x21 x22 x23 x24 x25 x26 x27 (.agg #[x11, x13, x17, x19, x23, x27, .slice none 0 0]) x29 := by
  have h2 := h.lift (W' := W) (Below.refl _ _)
  exact ⟨h2.bel, h2.f0, h2.f1, h2.f2, h2.f3, h2.f4, h2.f5, h2.f6, h2.f7, h2.f8, h2.f9, h2.f10, h2.f11, h2.f12, h2.f13, h2.f14, h2.f15, h2.f16, h2.f17, fun _ => rfl, h2.f19, h2.f20, h2.f79, fun _ => hc, fun _ => rfl, h2.c20⟩
theorem Bg.s19 {w w1 : World} {v : Int} {s : Value} {N sz n bx : Nat} {L : Nat → Bool} {W : World} {x4 x10 x11 x12 x13 x14 x15 x16 x17 x18 x19 x20 x21 x22 x23 x24 x25 x26 x27 x28 x29 : Value} (h : Bg w w1 v s N sz n bx L W x4 x10 x11 x12 x13 x14 x15 x16 x17 x18 x19 x20 x21 x22 x23 x24 x25 x26 x27 x28 x29) (hc : L 18 = true) (q20 : L 20 = false) (hw : w.heap.size ≤ W.heap.size) : Bg w w1 v s N sz n bx (upd L 19) (W.alloc (.cells #[x11, x13, x17, x19, x23, x27, .slice none 0 0] 80)) x4 x10 x11 x12 x13 x14 x15 x16 x17 x18 x19 x20 x21 x22 x23 x24 x25 x26 x27 x28 (.pointer (some ⟨W.heap.size, 0, none⟩)) := by
  have h2 := h.lift (W' := (W.alloc (.cells #[x11, x13, x17, x19, x23, x27, .slice none 0 0] 80))) (below_box _ _)
  exact ⟨h2.bel, h2.f0, h2.f1, h2.f2, h2.f3, h2.f4, h2.f5, h2.f6, h2.f7, h2.f8, h2.f9, h2.f10, h2.f11, h2.f12, h2.f13, h2.f14, h2.f15, h2.f16, h2.f17, h2.f18, fun _ => ⟨_, rfl, World.alloc_heap_new W _, hw⟩, fun hl => absurd (show L 20 = true from hl) (by rw [q20]; decide), h2.f79, h2.c18, fun _ => hc, fun _ => rfl⟩
theorem Bg.s20 {w w1 : World} {v : Int} {s : Value} {N sz n bx : Nat} {L : Nat → Bool} {W : World} {x4 x10 x11 x12 x13 x14 x15 x16 x17 x18 x19 x20 x21 x22 x23 x24 x25 x26 x27 x28 x29 : Value} (h : Bg w w1 v s N sz n bx L W x4 x10 x11 x12 x13 x14 x15 x16 x17 x18 x19 x20 x21 x22 x23 x24 x25 x26 x27 x28 x29) (hc : L 19 = true) : Bg w w1 v s N sz n bx (upd L 20) W (x29) x10 x11 x12 x13 x14 x15 x16 x17 x18 x19 x20 x21 x22 x23 x24 x25 x26 x27 x28 x29 := by
  have h2 := h.lift (W' := W) (Below.refl _ _)
  exact ⟨h2.bel, h2.f0, h2.f1, h2.f2, h2.f3, h2.f4, h2.f5, h2.f6, h2.f7, h2.f8, h2.f9, h2.f10, h2.f11, h2.f12, h2.f13, h2.f14, h2.f15, h2.f16, h2.f17, h2.f18, h2.f19, fun _ => rfl, h2.f79, h2.c18, h2.c19, fun _ => hc⟩
theorem Bg.q18 {w w1 : World} {v : Int} {s : Value} {N sz n bx : Nat} {L : Nat → Bool} {W : World} {x4 x10 x11 x12 x13 x14 x15 x16 x17 x18 x19 x20 x21 x22 x23 x24 x25 x26 x27 x28 x29 : Value} (h : Bg w w1 v s N sz n bx L W x4 x10 x11 x12 x13 x14 x15 x16 x17 x18 x19 x20 x21 x22 x23 x24 x25 x26 x27 x28 x29) (hi : L 1 = false ∨ L 3 = false ∨ L 7 = false ∨ L 9 = false ∨ L 13 = false ∨ L 17 = false) : L 18 = false ∧ L 19 = false := by
  have h1 : L 18 = false := by
    cases e : L 18
    · rfl
    · obtain ⟨a, b, c, d, f, g⟩ := h.c18 e
      rcases hi with i | i | i | i | i | i
      · rw [a] at i; cases i
      · rw [b] at i; cases i
      · rw [c] at i; cases i
      · rw [d] at i; cases i
      · rw [f] at i; cases i
      · rw [g] at i; cases i
  refine ⟨h1, ?_⟩
  cases e : L 19
  · rfl
  · rw [h.c19 e] at h1; cases h1
theorem Bg.q20 {w w1 : World} {v : Int} {s : Value} {N sz n bx : Nat} {L : Nat → Bool} {W : World} {x4 x10 x11 x12 x13 x14 x15 x16 x17 x18 x19 x20 x21 x22 x23 x24 x25 x26 x27 x28 x29 : Value} (h : Bg w w1 v s N sz n bx L W x4 x10 x11 x12 x13 x14 x15 x16 x17 x18 x19 x20 x21 x22 x23 x24 x25 x26 x27 x28 x29) (hi : L 19 = false) : L 20 = false := by
  cases e : L 20
  · rfl
  · rw [h.c20 e] at hi; cases hi
theorem getD_ft {listed : Array Bool} {i : Nat} (hs : listed.size = 21) (hi : i < 21) (h : listed.getD i true = false) : listed.getD i false = false := by
  have hj : i < listed.size := by omega
  simp [Array.getD, hj] at h ⊢
  exact h
end Go.Proofs.YtkinilhapgagcaaDoor

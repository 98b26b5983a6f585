/-
  rup: lead, the closing as it is made (written by walks/genlead.py).
  KEEP: set on app at below new trans refl start ap kept rd rds mono lt add none own nil put len pos setF setV putL putR other neV same_any lift bel
-/
import Derived.Test.YtkinilhapgagcaaDoorOnE
import Derived.Test.YtkinilhapgagcaaDoorUnS
import Derived.Test.YtkinilhapgagcaaDoorUnQ
set_option linter.unusedSimpArgs false
set_option linter.unusedVariables false
namespace Go.Proofs.YtkinilhapgagcaaDoor
open Go Go.RowKit

theorem infoP8 : (Tryd.prog.info? 108).map (fun i => (i.zero, i.size, i.bytes)) = some (some (.agg #[.int .i32 0, .int .i32 0]), 2, 8) := by kernel_rfl
def MkP8 (w W : World) (g : Nat) : Prop := W.heap[g]? = some (.cells (madeCells #[.int .i32 0, .int .i32 0] 2) 108 (0, 0)) ∧ w.heap.size ≤ g
theorem made_place8 (w : World) :
    (Instr.makeSlice 86 (.int .i64 1) (.int .i64 1)).run Tryd.prog w = .ok (.slice (some ⟨w.heap.size, 0, none⟩) 1 1) (w.alloc (.cells (madeCells #[.int .i32 0, .int .i32 0] 2) 108)) := by
  obtain ⟨i, hi, hz, hs, hb⟩ := info_parts infoP8
  have hr := run_make (P := Tryd.prog) w 86 108 i _ Tryd.underlying86 hi hz .i64 .i64 1 1 (by omega) (by omega) (by rw [hb]; omega) (by omega)
  have e1 : (1 : Int).toNat = 1 := by omega
  simp only [e1, hs] at hr
  exact hr
structure Lb (w w1 : World) (s : Value) (N n bx : Nat) (L : Nat → Bool) (W : World) (x6 x15 x16 x17 x18 x19 x20 x21 x22 x23 x24 x25 x26 x27 : Value) : Prop where
  bel : Below w1.heap.size w1 W
  f0 : L 0 = true → x15 = .pointer (some ⟨bx, 1, none⟩)
  f1 : L 1 = true → x16 = s
  f2 : L 2 = true → x17 = .int .i64 (n : Int)
  f3 : L 3 = true → ∃ g, x18 = .slice (some ⟨g, 0, none⟩) n n ∧ Mk w W g 4 (.bool false) n
  f4 : L 4 = true → x19 = .pointer (some ⟨bx, 1, none⟩)
  f5 : L 5 = true → x20 = s
  f6 : L 6 = true → x21 = .int .i64 (N : Int)
  f7 : L 7 = true → ∃ g, x22 = .slice (some ⟨g, 0, none⟩) N N ∧ Mk w W g 21 (.int .i32 0) N
  f8 : L 8 = true → x23 = .int .i64 (n : Int)
  f9 : L 9 = true → ∃ g, x24 = .slice (some ⟨g, 0, none⟩) n n ∧ Mk w W g 21 (.int .i32 0) n
  f10 : L 10 = true → ∃ g, x25 = .slice (some ⟨g, 0, none⟩) 1 1 ∧ MkP8 w W g
  f11 : L 11 = true → x26 = .agg #[x16, x18, x22, x24, x25, .slice none 0 0, .slice none 0 0]
  f12 : L 12 = true → ∃ b, x27 = .pointer (some ⟨b, 0, none⟩) ∧ W.heap[b]? = some (.cells #[x16, x18, x22, x24, x25, .slice none 0 0, .slice none 0 0] 88 (0, 0)) ∧ w.heap.size ≤ b
  f13 : L 13 = true → x6 = x27
  f79 : L 7 = true → L 9 = true → x22.ownBlock ≠ x24.ownBlock
  c11 : L 11 = true → L 1 = true ∧ L 3 = true ∧ L 7 = true ∧ L 9 = true ∧ L 10 = true
  c12 : L 12 = true → L 11 = true
  c13 : L 13 = true → L 12 = true
theorem Lb.lift {w w1 : World} {s : Value} {N n bx : Nat} {L : Nat → Bool} {W : World} {x6 x15 x16 x17 x18 x19 x20 x21 x22 x23 x24 x25 x26 x27 : Value} {W' : World} (h : Lb w w1 s N n bx L W x6 x15 x16 x17 x18 x19 x20 x21 x22 x23 x24 x25 x26 x27) (hb : Below W.heap.size W W') : Lb w w1 s N n bx L W' x6 x15 x16 x17 x18 x19 x20 x21 x22 x23 x24 x25 x26 x27 :=
  ⟨Below.step h.bel hb, h.f0, h.f1, h.f2, fun hl => by obtain ⟨g, e, m⟩ := h.f3 hl; exact ⟨g, e, m.lift hb⟩, h.f4, h.f5, h.f6, fun hl => by obtain ⟨g, e, m⟩ := h.f7 hl; exact ⟨g, e, m.lift hb⟩, h.f8, fun hl => by obtain ⟨g, e, m⟩ := h.f9 hl; exact ⟨g, e, m.lift hb⟩, fun hl => by obtain ⟨g, e, m1, m2⟩ := h.f10 hl; exact ⟨g, e, (hb.block g (Array.getElem?_eq_some_iff.1 m1).1).trans m1, m2⟩, h.f11, fun hl => by obtain ⟨b, e, m1, m2⟩ := h.f12 hl; exact ⟨b, e, (hb.block b (Array.getElem?_eq_some_iff.1 m1).1).trans m1, m2⟩, h.f13, h.f79, h.c11, h.c12, h.c13⟩
def LbI (w w1 : World) (v : Int) (s : Value) (N n bx : Nat) (y1 y3 y4 y7 y8 y9 y10 y11 y12 y13 y14 y28 y29 y30 y31 y32 y33 y34 y35 y36 y37 y38 y39 y40 y41 y42 y43 y44 y45 y46 y47 y48 y49 y50 y51 y52 y53 y54 y55 y56 y57 y58 y59 y60 y61 y62 y63 y64 : Value) (listed : Array Bool) (a : Act) (W : World) : Prop :=
  listed.size = 14 ∧ ∃ L : Nat → Bool, (∀ j, j < 14 → listed.getD j false = L j) ∧ ∃ x6 x15 x16 x17 x18 x19 x20 x21 x22 x23 x24 x25 x26 x27 : Value, a = ({ tmps := #[.agg #[.int .i64 v, s], y1, .pointer (some ⟨bx, 0, none⟩), y3, y4, .int .i64 (n : Int), x6, y7, y8, y9, y10, y11, y12, y13, y14, x15, x16, x17, x18, x19, x20, x21, x22, x23, x24, x25, x26, x27, y28, y29, y30, y31, y32, y33, y34, y35, y36, y37, y38, y39, y40, y41, y42, y43, y44, y45, y46, y47, y48, y49, y50, y51, y52, y53, y54, y55, y56, y57, y58, y59, y60, y61, y62, y63, y64], defers := [] } : Act) ∧ Lb w w1 s N n bx L W x6 x15 x16 x17 x18 x19 x20 x21 x22 x23 x24 x25 x26 x27
theorem lnk14 {listed : Array Bool} {L : Nat → Bool} (hs : listed.size = 14) (h : ∀ j, j < 14 → listed.getD j false = L j) {i : Nat} (hi : i < 14) : (listed.setIfInBounds i true).size = 14 ∧ ∀ j, j < 14 → (listed.setIfInBounds i true).getD j false = upd L i j := by
  refine ⟨by simpa using hs, fun j hj => ?_⟩
  rw [set_getD false (by rw [hs]; exact hi), h j hj]
  rfl
theorem getD_ft14 {listed : Array Bool} {i : Nat} (hs : listed.size = 14) (hi : i < 14) (h : listed.getD i true = false) : listed.getD i false = false := by
  have hj : i < listed.size := by omega
  simp [Array.getD, hj] at h ⊢
  exact h
theorem Lb.s0 {w w1 : World} {s : Value} {N n bx : Nat} {L : Nat → Bool} {W : World} {x6 x15 x16 x17 x18 x19 x20 x21 x22 x23 x24 x25 x26 x27 : Value} (h : Lb w w1 s N n bx L W x6 x15 x16 x17 x18 x19 x20 x21 x22 x23 x24 x25 x26 x27)  : Lb w w1 s N n bx (upd L 0) W x6 (.pointer (some ⟨bx, 1, none⟩)) x16 x17 x18 x19 x20 x21 x22 x23 x24 x25 x26 x27 := by
  have h2 := h.lift (W' := W) (Below.refl _ _)
  exact ⟨h2.bel, fun _ => rfl, h2.f1, h2.f2, h2.f3, h2.f4, h2.f5, h2.f6, h2.f7, h2.f8, h2.f9, h2.f10, h2.f11, h2.f12, h2.f13, h2.f79, h2.c11, h2.c12, h2.c13⟩
theorem Lb.s2 {w w1 : World} {s : Value} {N n bx : Nat} {L : Nat → Bool} {W : World} {x6 x15 x16 x17 x18 x19 x20 x21 x22 x23 x24 x25 x26 x27 : Value} (h : Lb w w1 s N n bx L W x6 x15 x16 x17 x18 x19 x20 x21 x22 x23 x24 x25 x26 x27)  : Lb w w1 s N n bx (upd L 2) W x6 x15 x16 (.int .i64 (n : Int)) x18 x19 x20 x21 x22 x23 x24 x25 x26 x27 := by
  have h2 := h.lift (W' := W) (Below.refl _ _)
  exact ⟨h2.bel, h2.f0, h2.f1, fun _ => rfl, h2.f3, h2.f4, h2.f5, h2.f6, h2.f7, h2.f8, h2.f9, h2.f10, h2.f11, h2.f12, h2.f13, h2.f79, h2.c11, h2.c12, h2.c13⟩
theorem Lb.s4 {w w1 : World} {s : Value} {N n bx : Nat} {L : Nat → Bool} {W : World} {x6 x15 x16 x17 x18 x19 x20 x21 x22 x23 x24 x25 x26 x27 : Value} (h : Lb w w1 s N n bx L W x6 x15 x16 x17 x18 x19 x20 x21 x22 x23 x24 x25 x26 x27)  : Lb w w1 s N n bx (upd L 4) W x6 x15 x16 x17 x18 (.pointer (some ⟨bx, 1, none⟩)) x20 x21 x22 x23 x24 x25 x26 x27 := by
  have h2 := h.lift (W' := W) (Below.refl _ _)
  exact ⟨h2.bel, h2.f0, h2.f1, h2.f2, h2.f3, fun _ => rfl, h2.f5, h2.f6, h2.f7, h2.f8, h2.f9, h2.f10, h2.f11, h2.f12, h2.f13, h2.f79, h2.c11, h2.c12, h2.c13⟩
theorem Lb.s5 {w w1 : World} {s : Value} {N n bx : Nat} {L : Nat → Bool} {W : World} {x6 x15 x16 x17 x18 x19 x20 x21 x22 x23 x24 x25 x26 x27 : Value} (h : Lb w w1 s N n bx L W x6 x15 x16 x17 x18 x19 x20 x21 x22 x23 x24 x25 x26 x27)  : Lb w w1 s N n bx (upd L 5) W x6 x15 x16 x17 x18 x19 (s) x21 x22 x23 x24 x25 x26 x27 := by
  have h2 := h.lift (W' := W) (Below.refl _ _)
  exact ⟨h2.bel, h2.f0, h2.f1, h2.f2, h2.f3, h2.f4, fun _ => rfl, h2.f6, h2.f7, h2.f8, h2.f9, h2.f10, h2.f11, h2.f12, h2.f13, h2.f79, h2.c11, h2.c12, h2.c13⟩
theorem Lb.s6 {w w1 : World} {s : Value} {N n bx : Nat} {L : Nat → Bool} {W : World} {x6 x15 x16 x17 x18 x19 x20 x21 x22 x23 x24 x25 x26 x27 : Value} (h : Lb w w1 s N n bx L W x6 x15 x16 x17 x18 x19 x20 x21 x22 x23 x24 x25 x26 x27)  : Lb w w1 s N n bx (upd L 6) W x6 x15 x16 x17 x18 x19 x20 (.int .i64 (N : Int)) x22 x23 x24 x25 x26 x27 := by
  have h2 := h.lift (W' := W) (Below.refl _ _)
  exact ⟨h2.bel, h2.f0, h2.f1, h2.f2, h2.f3, h2.f4, h2.f5, fun _ => rfl, h2.f7, h2.f8, h2.f9, h2.f10, h2.f11, h2.f12, h2.f13, h2.f79, h2.c11, h2.c12, h2.c13⟩
theorem Lb.s8 {w w1 : World} {s : Value} {N n bx : Nat} {L : Nat → Bool} {W : World} {x6 x15 x16 x17 x18 x19 x20 x21 x22 x23 x24 x25 x26 x27 : Value} (h : Lb w w1 s N n bx L W x6 x15 x16 x17 x18 x19 x20 x21 x22 x23 x24 x25 x26 x27)  : Lb w w1 s N n bx (upd L 8) W x6 x15 x16 x17 x18 x19 x20 x21 x22 (.int .i64 (n : Int)) x24 x25 x26 x27 := by
  have h2 := h.lift (W' := W) (Below.refl _ _)
  exact ⟨h2.bel, h2.f0, h2.f1, h2.f2, h2.f3, h2.f4, h2.f5, h2.f6, h2.f7, fun _ => rfl, h2.f9, h2.f10, h2.f11, h2.f12, h2.f13, h2.f79, h2.c11, h2.c12, h2.c13⟩
theorem Lb.s1 {w w1 : World} {s : Value} {N n bx : Nat} {L : Nat → Bool} {W : World} {x6 x15 x16 x17 x18 x19 x20 x21 x22 x23 x24 x25 x26 x27 : Value} (h : Lb w w1 s N n bx L W x6 x15 x16 x17 x18 x19 x20 x21 x22 x23 x24 x25 x26 x27) (q11 : L 11 = false) (q12 : L 12 = false)  : Lb w w1 s N n bx (upd L 1) W x6 x15 (s) x17 x18 x19 x20 x21 x22 x23 x24 x25 x26 x27 := by
  have h2 := h.lift (W' := W) (Below.refl _ _)
  exact ⟨h2.bel, h2.f0, fun _ => rfl, h2.f2, h2.f3, h2.f4, h2.f5, h2.f6, h2.f7, h2.f8, h2.f9, h2.f10, fun hl => absurd (show L 11 = true from hl) (by rw [q11]; decide), fun hl => absurd (show L 12 = true from hl) (by rw [q12]; decide), h2.f13, h2.f79, fun hl => absurd (show L 11 = true from hl) (by rw [q11]; decide), h2.c12, h2.c13⟩
theorem Lb.s3 {w w1 : World} {s : Value} {N n bx : Nat} {L : Nat → Bool} {W : World} {x6 x15 x16 x17 x18 x19 x20 x21 x22 x23 x24 x25 x26 x27 : Value} (h : Lb w w1 s N n bx L W x6 x15 x16 x17 x18 x19 x20 x21 x22 x23 x24 x25 x26 x27) (q11 : L 11 = false) (q12 : L 12 = false) (hw : w.heap.size ≤ W.heap.size) : Lb w w1 s N n bx (upd L 3) (W.alloc (.cells (madeCells #[.bool false] n) 4)) x6 x15 x16 x17 (.slice (some ⟨W.heap.size, 0, none⟩) n n) x19 x20 x21 x22 x23 x24 x25 x26 x27 := by
  have h2 := h.lift (W' := (W.alloc (.cells (madeCells #[.bool false] n) 4))) (below_box _ _)
  exact ⟨h2.bel, h2.f0, h2.f1, h2.f2, fun _ => ⟨_, rfl, Mk.new _ _ _ hw⟩, h2.f4, h2.f5, h2.f6, h2.f7, h2.f8, h2.f9, h2.f10, fun hl => absurd (show L 11 = true from hl) (by rw [q11]; decide), fun hl => absurd (show L 12 = true from hl) (by rw [q12]; decide), h2.f13, h2.f79, fun hl => absurd (show L 11 = true from hl) (by rw [q11]; decide), h2.c12, h2.c13⟩
theorem Lb.s7 {w w1 : World} {s : Value} {N n bx : Nat} {L : Nat → Bool} {W : World} {x6 x15 x16 x17 x18 x19 x20 x21 x22 x23 x24 x25 x26 x27 : Value} (h : Lb w w1 s N n bx L W x6 x15 x16 x17 x18 x19 x20 x21 x22 x23 x24 x25 x26 x27) (q11 : L 11 = false) (q12 : L 12 = false) (hw : w.heap.size ≤ W.heap.size) : Lb w w1 s N n bx (upd L 7) (W.alloc (.cells (madeCells #[.int .i32 0] N) 21)) x6 x15 x16 x17 x18 x19 x20 x21 (.slice (some ⟨W.heap.size, 0, none⟩) N N) x23 x24 x25 x26 x27 := by
  have h2 := h.lift (W' := (W.alloc (.cells (madeCells #[.int .i32 0] N) 21))) (below_box _ _)
  exact ⟨h2.bel, h2.f0, h2.f1, h2.f2, h2.f3, h2.f4, h2.f5, h2.f6, fun _ => ⟨_, rfl, Mk.new _ _ _ hw⟩, h2.f8, h2.f9, h2.f10, fun hl => absurd (show L 11 = true from hl) (by rw [q11]; decide), fun hl => absurd (show L 12 = true from hl) (by rw [q12]; decide), h2.f13, fun _ hl e => by obtain ⟨g, eg, m⟩ := h.f9 (show L 9 = true from hl); subst eg; have := (Array.getElem?_eq_some_iff.1 m.1).1; simp [Value.ownBlock] at e; omega, fun hl => absurd (show L 11 = true from hl) (by rw [q11]; decide), h2.c12, h2.c13⟩
theorem Lb.s9 {w w1 : World} {s : Value} {N n bx : Nat} {L : Nat → Bool} {W : World} {x6 x15 x16 x17 x18 x19 x20 x21 x22 x23 x24 x25 x26 x27 : Value} (h : Lb w w1 s N n bx L W x6 x15 x16 x17 x18 x19 x20 x21 x22 x23 x24 x25 x26 x27) (q11 : L 11 = false) (q12 : L 12 = false) (hw : w.heap.size ≤ W.heap.size) : Lb w w1 s N n bx (upd L 9) (W.alloc (.cells (madeCells #[.int .i32 0] n) 21)) x6 x15 x16 x17 x18 x19 x20 x21 x22 x23 (.slice (some ⟨W.heap.size, 0, none⟩) n n) x25 x26 x27 := by
  have h2 := h.lift (W' := (W.alloc (.cells (madeCells #[.int .i32 0] n) 21))) (below_box _ _)
  exact ⟨h2.bel, h2.f0, h2.f1, h2.f2, h2.f3, h2.f4, h2.f5, h2.f6, h2.f7, h2.f8, fun _ => ⟨_, rfl, Mk.new _ _ _ hw⟩, h2.f10, fun hl => absurd (show L 11 = true from hl) (by rw [q11]; decide), fun hl => absurd (show L 12 = true from hl) (by rw [q12]; decide), h2.f13, fun hl _ e => by obtain ⟨g, eg, m⟩ := h.f7 (show L 7 = true from hl); subst eg; have := (Array.getElem?_eq_some_iff.1 m.1).1; simp [Value.ownBlock] at e; omega, fun hl => absurd (show L 11 = true from hl) (by rw [q11]; decide), h2.c12, h2.c13⟩
theorem Lb.s10 {w w1 : World} {s : Value} {N n bx : Nat} {L : Nat → Bool} {W : World} {x6 x15 x16 x17 x18 x19 x20 x21 x22 x23 x24 x25 x26 x27 : Value} (h : Lb w w1 s N n bx L W x6 x15 x16 x17 x18 x19 x20 x21 x22 x23 x24 x25 x26 x27) (q11 : L 11 = false) (q12 : L 12 = false) (hw : w.heap.size ≤ W.heap.size) : Lb w w1 s N n bx (upd L 10) (W.alloc (.cells (madeCells #[.int .i32 0, .int .i32 0] 2) 108)) x6 x15 x16 x17 x18 x19 x20 x21 x22 x23 x24 (.slice (some ⟨W.heap.size, 0, none⟩) 1 1) x26 x27 := by
  have h2 := h.lift (W' := (W.alloc (.cells (madeCells #[.int .i32 0, .int .i32 0] 2) 108))) (below_box _ _)
  exact ⟨h2.bel, h2.f0, h2.f1, h2.f2, h2.f3, h2.f4, h2.f5, h2.f6, h2.f7, h2.f8, h2.f9, fun _ => ⟨_, rfl, World.alloc_heap_new W _, hw⟩, fun hl => absurd (show L 11 = true from hl) (by rw [q11]; decide), fun hl => absurd (show L 12 = true from hl) (by rw [q12]; decide), h2.f13, h2.f79, fun hl => absurd (show L 11 = true from hl) (by rw [q11]; decide), h2.c12, h2.c13⟩
theorem Lb.s11 {w w1 : World} {s : Value} {N n bx : Nat} {L : Nat → Bool} {W : World} {x6 x15 x16 x17 x18 x19 x20 x21 x22 x23 x24 x25 x26 x27 : Value} (h : Lb w w1 s N n bx L W x6 x15 x16 x17 x18 x19 x20 x21 x22 x23 x24 x25 x26 x27) (hc : L 1 = true ∧ L 3 = true ∧ L 7 = true ∧ L 9 = true ∧ L 10 = true) : Lb w w1 s N n bx (upd L 11) W x6 x15 x16 x17 x18 x19 x20 x21 x22 x23 x24 x25 (.agg #[x16, x18, x22, x24, x25, .slice none 0 0, .slice none 0 0]) x27 := by
  have h2 := h.lift (W' := W) (Below.refl _ _)
  exact ⟨h2.bel, h2.f0, h2.f1, h2.f2, h2.f3, h2.f4, h2.f5, h2.f6, h2.f7, h2.f8, h2.f9, h2.f10, fun _ => rfl, h2.f12, h2.f13, h2.f79, fun _ => hc, fun _ => rfl, h2.c13⟩
theorem Lb.s12 {w w1 : World} {s : Value} {N n bx : Nat} {L : Nat → Bool} {W : World} {x6 x15 x16 x17 x18 x19 x20 x21 x22 x23 x24 x25 x26 x27 : Value} (h : Lb w w1 s N n bx L W x6 x15 x16 x17 x18 x19 x20 x21 x22 x23 x24 x25 x26 x27) (hc : L 11 = true) (q13 : L 13 = false) (hw : w.heap.size ≤ W.heap.size) : Lb w w1 s N n bx (upd L 12) (W.alloc (.cells #[x16, x18, x22, x24, x25, .slice none 0 0, .slice none 0 0] 88)) x6 x15 x16 x17 x18 x19 x20 x21 x22 x23 x24 x25 x26 (.pointer (some ⟨W.heap.size, 0, none⟩)) := by
  have h2 := h.lift (W' := (W.alloc (.cells #[x16, x18, x22, x24, x25, .slice none 0 0, .slice none 0 0] 88))) (below_box _ _)
  exact ⟨h2.bel, h2.f0, h2.f1, h2.f2, h2.f3, h2.f4, h2.f5, h2.f6, h2.f7, h2.f8, h2.f9, h2.f10, h2.f11, fun _ => ⟨_, rfl, World.alloc_heap_new W _, hw⟩, fun hl => absurd (show L 13 = true from hl) (by rw [q13]; decide), h2.f79, h2.c11, fun _ => hc, fun _ => rfl⟩
theorem Lb.s13 {w w1 : World} {s : Value} {N n bx : Nat} {L : Nat → Bool} {W : World} {x6 x15 x16 x17 x18 x19 x20 x21 x22 x23 x24 x25 x26 x27 : Value} (h : Lb w w1 s N n bx L W x6 x15 x16 x17 x18 x19 x20 x21 x22 x23 x24 x25 x26 x27) (hc : L 12 = true) : Lb w w1 s N n bx (upd L 13) W (x27) x15 x16 x17 x18 x19 x20 x21 x22 x23 x24 x25 x26 x27 := by
  have h2 := h.lift (W' := W) (Below.refl _ _)
  exact ⟨h2.bel, h2.f0, h2.f1, h2.f2, h2.f3, h2.f4, h2.f5, h2.f6, h2.f7, h2.f8, h2.f9, h2.f10, h2.f11, h2.f12, fun _ => rfl, h2.f79, h2.c11, h2.c12, fun _ => hc⟩
theorem Lb.q11 {w w1 : World} {s : Value} {N n bx : Nat} {L : Nat → Bool} {W : World} {x6 x15 x16 x17 x18 x19 x20 x21 x22 x23 x24 x25 x26 x27 : Value} (h : Lb w w1 s N n bx L W x6 x15 x16 x17 x18 x19 x20 x21 x22 x23 x24 x25 x26 x27) (hi : L 1 = false ∨ L 3 = false ∨ L 7 = false ∨ L 9 = false ∨ L 10 = false) : L 11 = false ∧ L 12 = false := by
  have h1 : L 11 = false := by
    cases e : L 11
    · rfl
    · obtain ⟨a, b, c, d, f⟩ := h.c11 e
      simp [a, b, c, d, f] at hi
  refine ⟨h1, ?_⟩
  cases e : L 12
  · rfl
  · rw [h.c12 e] at h1; cases h1
theorem Lb.q13 {w w1 : World} {s : Value} {N n bx : Nat} {L : Nat → Bool} {W : World} {x6 x15 x16 x17 x18 x19 x20 x21 x22 x23 x24 x25 x26 x27 : Value} (h : Lb w w1 s N n bx L W x6 x15 x16 x17 x18 x19 x20 x21 x22 x23 x24 x25 x26 x27) (hi : L 12 = false) : L 13 = false := by
  cases e : L 13
  · rfl
  · rw [h.c13 e] at hi; cases hi
theorem Lb.fin {w w1 : World} {s : Value} {N n bx : Nat} {L : Nat → Bool} {W : World} {x6 x15 x16 x17 x18 x19 x20 x21 x22 x23 x24 x25 x26 x27 : Value} (h : Lb w w1 s N n bx L W x6 x15 x16 x17 x18 x19 x20 x21 x22 x23 x24 x25 x26 x27) (hall : ∀ j, j < 14 → L j = true) (hb : Below w.heap.size w w1) (hN : N ≤ 1073741824) (hn : n ≤ 2097152) (hev : n % 2 = 0) : ∃ b sy, x6 = .pointer (some ⟨b, 0, none⟩) ∧ Ov w W b sy n [] (List.replicate N []) ∧ sy.C = s := by
  have t : ∀ j, j < 14 → L j = true := hall
  obtain ⟨b, e27, hbx, hbb⟩ := h.f12 (t 12 (by decide))
  have e6 := h.f13 (t 13 (by decide))
  have e16 := h.f1 (t 1 (by decide))
  obtain ⟨g3, e18, m3⟩ := h.f3 (t 3 (by decide))
  obtain ⟨g7, e22, m7⟩ := h.f7 (t 7 (by decide))
  obtain ⟨g9, e24, m9⟩ := h.f9 (t 9 (by decide))
  obtain ⟨g10, e25, m10, m10b⟩ := h.f10 (t 10 (by decide))
  have hne := h.f79 (t 7 (by decide)) (t 9 (by decide))
  have row : ∀ {g : Nat} {e : TypeId} {z : Value} {m : Nat}, Mk w W g e z m → m ≤ maxLen → W.ownsRow w.heap.size e 1 (.slice (some ⟨g, 0, none⟩) m m) m (List.replicate m z) := fun {g e z m} hm hl => by
    refine ⟨by simp, .inr ⟨g, m, _, rfl, hm.2, hm.1, Nat.le_refl _, hl, by rw [made_zero6]; simp, ?_⟩⟩
    rw [made_zero6]; simp
  refine ⟨b, ⟨s, x18, x22, x24, x25, .slice none 0 0, .slice none 0 0⟩, e6.trans e27, ⟨Below.step hb h.bel, ⟨hn, hev, by simpa using hN, fun c hc => ?_, fun c hc l hl => ?_⟩, List.replicate n 0, [(0, 0)], ⟨by rw [← e16]; exact hbx, hbb, ?_, ?_, ?_, ?_, World.ownsRow_nil _ _ _ _, World.ownsRow_nil _ _ _ _, ?_, fun k hk e => by simp [Value.ownBlock] at e, fun k hk e => by simp [Value.ownBlock] at e⟩, ⟨by simp, by simp, fun i p hi => ?_, fun p k q hp hq => ?_⟩, by simp⟩, rfl⟩
  · rw [(List.mem_replicate.1 hc).2]; simp
  · rw [(List.mem_replicate.1 hc).2] at hl; simp at hl
  · have e : (inLs n []).map Value.bool = List.replicate n (.bool false) := by
      unfold inLs; rw [List.map_map]; apply List.ext_getElem (by simp); intro i h1 h2; simp
    rw [e, e18]; exact row m3 (by unfold maxLen; omega)
  · have e : i32s (lefts (List.replicate N []) []) = List.replicate N (.int .i32 0) := by
      unfold i32s lefts; rw [List.map_replicate, List.map_replicate]; simp [cnt_nil]
    rw [e, e22, List.length_replicate]; exact row m7 (by unfold maxLen; omega)
  · have e : i32s (nats (List.replicate n 0)) = List.replicate n (.int .i32 0) := by
      unfold i32s nats; rw [List.map_replicate, List.map_replicate]; rfl
    rw [e, e24]; exact row m9 (by unfold maxLen; omega)
  · rw [e25]
    refine ⟨by simp [twp], .inr ⟨g10, 1, _, rfl, m10b, m10, Nat.le_refl _, by unfold maxLen; omega, by rw [made_two6]; simp, ?_⟩⟩
    rw [made_two6]; simp [twp]
  · intro k hk e
    apply hne
    rw [← hk, ← e]
  · rw [List.getElem?_replicate] at hi
    split at hi
    · injection hi with hi
      subst hi
      refine ⟨by simp, [], .nil, by simp, fun k => ?_⟩
      constructor
      · intro h2; simp at h2
      · intro h2
        exfalso
        rw [List.getD_eq_getElem?_getD, List.getElem?_replicate] at h2
        split at h2 <;> simp at h2
    · cases hi
  · exfalso
    have h3 := (List.getElem?_eq_some_iff.1 hq).1
    simp at h3
    omega
set_option maxRecDepth 100000 in
set_option maxHeartbeats 3200000 in
theorem lead_region (Q : Exit → Act → World → Prop) (w w1 : World) (v : Int) (s : Value) (a : Option Addr) (N c n bx : Nat) (y1 y3 y4 y7 y8 y9 y10 y11 y12 y13 y14 y28 y29 y30 y31 y32 y33 y34 y35 y36 y37 y38 y39 y40 y41 y42 y43 y44 y45 y46 y47 y48 y49 y50 y51 y52 y53 y54 y55 y56 y57 y58 y59 y60 y61 y62 y63 y64 : Value) (u6 u15 u16 u17 u18 u19 u20 u21 u22 u23 u24 u25 u26 u27 : Value) (HES : Hid (s = .slice a N c)) (hb : Below w.heap.size w w1) (hN : N ≤ 1073741824) (hn : n ≤ 2097152) (hev : n % 2 = 0) (k1 : w1.cell? ⟨bx, 1, none⟩ = some s)
    (hQ : ∀ (W : World) (x6 x15 x16 x17 x18 x19 x20 x21 x22 x23 x24 x25 x26 x27 : Value) (b : Nat) (sy : Sy), x6 = .pointer (some ⟨b, 0, none⟩) → Ov w W b sy n [] (List.replicate N []) → sy.C = s → Below w1.heap.size w1 W → Q .normal ({ tmps := #[.agg #[.int .i64 v, s], y1, .pointer (some ⟨bx, 0, none⟩), y3, y4, .int .i64 (n : Int), x6, y7, y8, y9, y10, y11, y12, y13, y14, x15, x16, x17, x18, x19, x20, x21, x22, x23, x24, x25, x26, x27, y28, y29, y30, y31, y32, y33, y34, y35, y36, y37, y38, y39, y40, y41, y42, y43, y44, y45, y46, y47, y48, y49, y50, y51, y52, y53, y54, y55, y56, y57, y58, y59, y60, y61, y62, y63, y64], defers := [] } : Act) W) :
    (Code.region 2 #[{ dst := some 15, op := Op.fieldAddr 24 (Operand.tmp 2) 1, type := 0, pos := "onward.go:31", after := #[], guard := none }, { dst := some 16, op := Op.load 22 (Operand.tmp 15), type := 22, pos := "onward.go:31", after := #[{ on := 0, ground := Ground.data }], guard := none }, { dst := some 17, op := Op.move (Operand.tmp 5), type := 3, pos := "onward.go:31", after := #[], guard := none }, { dst := some 18, op := Op.makeSlice 50 (Operand.tmp 17) (Operand.tmp 17), type := 50, pos := "onward.go:31", after := #[{ on := 2, ground := Ground.data }, { on := 2, ground := Ground.data }], guard := none }, { dst := some 19, op := Op.fieldAddr 24 (Operand.tmp 2) 1, type := 0, pos := "onward.go:31", after := #[], guard := none }, { dst := some 20, op := Op.load 22 (Operand.tmp 19), type := 22, pos := "onward.go:31", after := #[{ on := 4, ground := Ground.data }], guard := none }, { dst := some 21, op := Op.call { callee := Callee.builtin Builtin.len, args := #[Operand.tmp 20], argTypes := #[22] }, type := 3, pos := "onward.go:31", after := #[{ on := 5, ground := Ground.data }], guard := none }, { dst := some 22, op := Op.makeSlice 75 (Operand.tmp 21) (Operand.tmp 21), type := 75, pos := "onward.go:31", after := #[{ on := 6, ground := Ground.data }, { on := 6, ground := Ground.data }], guard := none }, { dst := some 23, op := Op.move (Operand.tmp 5), type := 3, pos := "onward.go:31", after := #[], guard := none }, { dst := some 24, op := Op.makeSlice 75 (Operand.tmp 23) (Operand.tmp 23), type := 75, pos := "onward.go:31", after := #[{ on := 8, ground := Ground.data }, { on := 8, ground := Ground.data }], guard := none }, { dst := some 25, op := Op.makeSlice 86 (Operand.const (Value.int IntKind.i64 1)) (Operand.const (Value.int IntKind.i64 1)), type := 86, pos := "onward.go:31", after := #[], guard := none }, { dst := some 26, op := Op.build 88 #[(0, Operand.tmp 16), (1, Operand.tmp 18), (2, Operand.tmp 22), (3, Operand.tmp 24), (4, Operand.tmp 25)], type := 88, pos := "onward.go:31", after := #[{ on := 1, ground := Ground.data }, { on := 3, ground := Ground.data }, { on := 7, ground := Ground.data }, { on := 9, ground := Ground.data }, { on := 10, ground := Ground.data }], guard := none }, { dst := some 27, op := Op.box 88 (Operand.tmp 26), type := 59, pos := "onward.go:31", after := #[{ on := 11, ground := Ground.data }], guard := none }, { dst := some 6, op := Op.assign (Operand.tmp 27), type := 59, pos := "onward.go:31", after := #[{ on := 12, ground := Ground.data }, { on := 0, ground := Ground.phase }, { on := 1, ground := Ground.phase }, { on := 2, ground := Ground.phase }, { on := 3, ground := Ground.phase }, { on := 4, ground := Ground.phase }, { on := 5, ground := Ground.phase }, { on := 6, ground := Ground.phase }, { on := 7, ground := Ground.phase }, { on := 8, ground := Ground.phase }, { on := 9, ground := Ground.phase }, { on := 10, ground := Ground.phase }, { on := 11, ground := Ground.phase }, { on := 12, ground := Ground.phase }], guard := none }] true).wp Tryd.prog Q ({ tmps := #[.agg #[.int .i64 v, s], y1, .pointer (some ⟨bx, 0, none⟩), y3, y4, .int .i64 (n : Int), u6, y7, y8, y9, y10, y11, y12, y13, y14, u15, u16, u17, u18, u19, u20, u21, u22, u23, u24, u25, u26, u27, y28, y29, y30, y31, y32, y33, y34, y35, y36, y37, y38, y39, y40, y41, y42, y43, y44, y45, y46, y47, y48, y49, y50, y51, y52, y53, y54, y55, y56, y57, y58, y59, y60, y61, y62, y63, y64], defers := [] } : Act) w1 := by
  have hmkI := run_make_row' (P := Tryd.prog) 50 4 (.bool false) 1 Tryd.underlying50 infoB6 rfl .i64 .i64 n (by omega) (by omega)
  have hmkE := run_make_row' (P := Tryd.prog) 75 21 (.int .i32 0) 4 Tryd.underlying75 infoI6 rfl .i64 .i64 N (by omega) (by omega)
  have hmkF := run_make_row' (P := Tryd.prog) 75 21 (.int .i32 0) 4 Tryd.underlying75 infoI6 rfl .i64 .i64 n (by omega) (by omega)
  have hmkP := made_place8
  refine wp_region_any (by kernel_rfl) ?_
  refine any_inv (LbI w w1 v s N n bx y1 y3 y4 y7 y8 y9 y10 y11 y12 y13 y14 y28 y29 y30 y31 y32 y33 y34 y35 y36 y37 y38 y39 y40 y41 y42 y43 y44 y45 y46 y47 y48 y49 y50 y51 y52 y53 y54 y55 y56 y57 y58 y59 y60 y61 y62 y63 y64) (back_of (by kernel_rfl)) ?_ ?_ _ _ _ _ rfl (by decide) ⟨rfl, fun _ => false, fun j hj => by simp [Array.getD, hj], u6, u15, u16, u17, u18, u19, u20, u21, u22, u23, u24, u25, u26, u27, rfl, ⟨(Below.refl _ _).drew, fun h => Bool.noConfusion h, fun h => Bool.noConfusion h, fun h => Bool.noConfusion h, fun h => Bool.noConfusion h, fun h => Bool.noConfusion h, fun h => Bool.noConfusion h, fun h => Bool.noConfusion h, fun h => Bool.noConfusion h, fun h => Bool.noConfusion h, fun h => Bool.noConfusion h, fun h => Bool.noConfusion h, fun h => Bool.noConfusion h, fun h => Bool.noConfusion h, fun h => Bool.noConfusion h, fun h _ => Bool.noConfusion h, fun h => Bool.noConfusion h, fun h => Bool.noConfusion h, fun h => Bool.noConfusion h⟩⟩
  · intro listed a' W i o hI ho hl hdep K hK
    obtain ⟨hsz, L, hlk, x6, x15, x16, x17, x18, x19, x20, x21, x22, x23, x24, x25, x26, x27, rfl, hB⟩ := hI
    have hw : w.heap.size ≤ W.heap.size := Nat.le_trans hb.size hB.bel.size
    have c1 : W.cell? ⟨bx, 1, none⟩ = some s := (hB.bel.cell (p := ⟨bx, 1, none⟩) (World.block_lt_of_cell? w1 _ k1)).trans k1
    have hi : i < 14 := (Array.getElem?_eq_some_iff.1 ho).1
    rcases (show i = 0 ∨ i = 1 ∨ i = 2 ∨ i = 3 ∨ i = 4 ∨ i = 5 ∨ i = 6 ∨ i = 7 ∨ i = 8 ∨ i = 9 ∨ i = 10 ∨ i = 11 ∨ i = 12 ∨ i = 13 by omega) with rfl | rfl | rfl | rfl | rfl | rfl | rfl | rfl | rfl | rfl | rfl | rfl | rfl | rfl
    · obtain rfl := (Option.some.inj ho)
      have hno : L 0 = false := (hlk 0 (by decide)).symm.trans (getD_ft14 hsz (by decide) hl)
      obtain ⟨hs2, hl2⟩ := lnk14 hsz hlk (i := 0) (by decide)
      refine wpOp_step rfl fun K' hK' => ?_
      go_simp
      exact hK' _ _ (hK _ _ ⟨hs2, _, hl2, _, _, _, _, _, _, _, _, _, _, _, _, _, _, rfl, hB.s0 ⟩)
    · obtain rfl := (Option.some.inj ho)
      have hno : L 1 = false := (hlk 1 (by decide)).symm.trans (getD_ft14 hsz (by decide) hl)
      obtain ⟨hs2, hl2⟩ := lnk14 hsz hlk (i := 1) (by decide)
      have d0 : L 0 = true := (hlk 0 (by decide)).symm.trans (hdep ⟨0, .data⟩ (by simp) rfl)
      have e0 := hB.f0 d0
      obtain ⟨q11, q12⟩ := hB.q11 (by simp [show L 1 = false from hno])
      subst e0
      refine wpOp_step rfl fun K' hK' => ?_
      go_simp
      exact hK' _ _ (hK _ _ ⟨hs2, _, hl2, _, _, _, _, _, _, _, _, _, _, _, _, _, _, rfl, hB.s1 q11 q12⟩)
    · obtain rfl := (Option.some.inj ho)
      have hno : L 2 = false := (hlk 2 (by decide)).symm.trans (getD_ft14 hsz (by decide) hl)
      obtain ⟨hs2, hl2⟩ := lnk14 hsz hlk (i := 2) (by decide)
      refine wpOp_step rfl fun K' hK' => ?_
      go_simp
      exact hK' _ _ (hK _ _ ⟨hs2, _, hl2, _, _, _, _, _, _, _, _, _, _, _, _, _, _, rfl, hB.s2 ⟩)
    · obtain rfl := (Option.some.inj ho)
      have hno : L 3 = false := (hlk 3 (by decide)).symm.trans (getD_ft14 hsz (by decide) hl)
      obtain ⟨hs2, hl2⟩ := lnk14 hsz hlk (i := 3) (by decide)
      have d2 : L 2 = true := (hlk 2 (by decide)).symm.trans (hdep ⟨2, .data⟩ (by simp) rfl)
      have e2 := hB.f2 d2
      obtain ⟨q11, q12⟩ := hB.q11 (by simp [show L 3 = false from hno])
      subst e2
      refine wpOp_step rfl fun K' hK' => ?_
      go_simp
      exact hK' _ _ (hK _ _ ⟨hs2, _, hl2, _, _, _, _, _, _, _, _, _, _, _, _, _, _, rfl, hB.s3 q11 q12 hw⟩)
    · obtain rfl := (Option.some.inj ho)
      have hno : L 4 = false := (hlk 4 (by decide)).symm.trans (getD_ft14 hsz (by decide) hl)
      obtain ⟨hs2, hl2⟩ := lnk14 hsz hlk (i := 4) (by decide)
      refine wpOp_step rfl fun K' hK' => ?_
      go_simp
      exact hK' _ _ (hK _ _ ⟨hs2, _, hl2, _, _, _, _, _, _, _, _, _, _, _, _, _, _, rfl, hB.s4 ⟩)
    · obtain rfl := (Option.some.inj ho)
      have hno : L 5 = false := (hlk 5 (by decide)).symm.trans (getD_ft14 hsz (by decide) hl)
      obtain ⟨hs2, hl2⟩ := lnk14 hsz hlk (i := 5) (by decide)
      have d4 : L 4 = true := (hlk 4 (by decide)).symm.trans (hdep ⟨4, .data⟩ (by simp) rfl)
      have e4 := hB.f4 d4
      subst e4
      refine wpOp_step rfl fun K' hK' => ?_
      go_simp
      exact hK' _ _ (hK _ _ ⟨hs2, _, hl2, _, _, _, _, _, _, _, _, _, _, _, _, _, _, rfl, hB.s5 ⟩)
    · obtain rfl := (Option.some.inj ho)
      have hno : L 6 = false := (hlk 6 (by decide)).symm.trans (getD_ft14 hsz (by decide) hl)
      obtain ⟨hs2, hl2⟩ := lnk14 hsz hlk (i := 6) (by decide)
      have d5 : L 5 = true := (hlk 5 (by decide)).symm.trans (hdep ⟨5, .data⟩ (by simp) rfl)
      have e5 := hB.f5 d5
      subst e5
      have hsl := HES.out
      subst hsl
      refine wpOp_step rfl fun K' hK' => ?_
      go_simp
      exact hK' _ _ (hK _ _ ⟨hs2, _, hl2, _, _, _, _, _, _, _, _, _, _, _, _, _, _, rfl, hB.s6 ⟩)
    · obtain rfl := (Option.some.inj ho)
      have hno : L 7 = false := (hlk 7 (by decide)).symm.trans (getD_ft14 hsz (by decide) hl)
      obtain ⟨hs2, hl2⟩ := lnk14 hsz hlk (i := 7) (by decide)
      have d6 : L 6 = true := (hlk 6 (by decide)).symm.trans (hdep ⟨6, .data⟩ (by simp) rfl)
      have e6 := hB.f6 d6
      obtain ⟨q11, q12⟩ := hB.q11 (by simp [show L 7 = false from hno])
      subst e6
      refine wpOp_step rfl fun K' hK' => ?_
      go_simp
      exact hK' _ _ (hK _ _ ⟨hs2, _, hl2, _, _, _, _, _, _, _, _, _, _, _, _, _, _, rfl, hB.s7 q11 q12 hw⟩)
    · obtain rfl := (Option.some.inj ho)
      have hno : L 8 = false := (hlk 8 (by decide)).symm.trans (getD_ft14 hsz (by decide) hl)
      obtain ⟨hs2, hl2⟩ := lnk14 hsz hlk (i := 8) (by decide)
      refine wpOp_step rfl fun K' hK' => ?_
      go_simp
      exact hK' _ _ (hK _ _ ⟨hs2, _, hl2, _, _, _, _, _, _, _, _, _, _, _, _, _, _, rfl, hB.s8 ⟩)
    · obtain rfl := (Option.some.inj ho)
      have hno : L 9 = false := (hlk 9 (by decide)).symm.trans (getD_ft14 hsz (by decide) hl)
      obtain ⟨hs2, hl2⟩ := lnk14 hsz hlk (i := 9) (by decide)
      have d8 : L 8 = true := (hlk 8 (by decide)).symm.trans (hdep ⟨8, .data⟩ (by simp) rfl)
      have e8 := hB.f8 d8
      obtain ⟨q11, q12⟩ := hB.q11 (by simp [show L 9 = false from hno])
      subst e8
      refine wpOp_step rfl fun K' hK' => ?_
      go_simp
      exact hK' _ _ (hK _ _ ⟨hs2, _, hl2, _, _, _, _, _, _, _, _, _, _, _, _, _, _, rfl, hB.s9 q11 q12 hw⟩)
    · obtain rfl := (Option.some.inj ho)
      have hno : L 10 = false := (hlk 10 (by decide)).symm.trans (getD_ft14 hsz (by decide) hl)
      obtain ⟨hs2, hl2⟩ := lnk14 hsz hlk (i := 10) (by decide)
      obtain ⟨q11, q12⟩ := hB.q11 (by simp [show L 10 = false from hno])
      refine wpOp_step rfl fun K' hK' => ?_
      go_simp
      exact hK' _ _ (hK _ _ ⟨hs2, _, hl2, _, _, _, _, _, _, _, _, _, _, _, _, _, _, rfl, hB.s10 q11 q12 hw⟩)
    · obtain rfl := (Option.some.inj ho)
      have hno : L 11 = false := (hlk 11 (by decide)).symm.trans (getD_ft14 hsz (by decide) hl)
      obtain ⟨hs2, hl2⟩ := lnk14 hsz hlk (i := 11) (by decide)
      have d1 : L 1 = true := (hlk 1 (by decide)).symm.trans (hdep ⟨1, .data⟩ (by simp) rfl)
      have d3 : L 3 = true := (hlk 3 (by decide)).symm.trans (hdep ⟨3, .data⟩ (by simp) rfl)
      have d7 : L 7 = true := (hlk 7 (by decide)).symm.trans (hdep ⟨7, .data⟩ (by simp) rfl)
      have d9 : L 9 = true := (hlk 9 (by decide)).symm.trans (hdep ⟨9, .data⟩ (by simp) rfl)
      have d10 : L 10 = true := (hlk 10 (by decide)).symm.trans (hdep ⟨10, .data⟩ (by simp) rfl)
      have ef1 := hB.f1 d1
      subst ef1
      have hsl := HES.out
      subst hsl
      obtain ⟨g3, ef3, -⟩ := hB.f3 d3
      subst ef3
      obtain ⟨g7, ef7, -⟩ := hB.f7 d7
      subst ef7
      obtain ⟨g9, ef9, -⟩ := hB.f9 d9
      subst ef9
      obtain ⟨g10, ef10, -⟩ := hB.f10 d10
      subst ef10
      refine wpOp_step rfl fun K' hK' => ?_
      go_simp
      exact hK' _ _ (hK _ _ ⟨hs2, _, hl2, _, _, _, _, _, _, _, _, _, _, _, _, _, _, rfl, hB.s11 ⟨d1, d3, d7, d9, d10⟩⟩)
    · obtain rfl := (Option.some.inj ho)
      have hno : L 12 = false := (hlk 12 (by decide)).symm.trans (getD_ft14 hsz (by decide) hl)
      obtain ⟨hs2, hl2⟩ := lnk14 hsz hlk (i := 12) (by decide)
      have d11 : L 11 = true := (hlk 11 (by decide)).symm.trans (hdep ⟨11, .data⟩ (by simp) rfl)
      have q13 := hB.q13 hno
      obtain ⟨d1, d3, d7, d9, d10⟩ := hB.c11 d11
      have ef1 := hB.f1 d1
      subst ef1
      have hsl := HES.out
      subst hsl
      obtain ⟨g3, ef3, -⟩ := hB.f3 d3
      subst ef3
      obtain ⟨g7, ef7, -⟩ := hB.f7 d7
      subst ef7
      obtain ⟨g9, ef9, -⟩ := hB.f9 d9
      subst ef9
      obtain ⟨g10, ef10, -⟩ := hB.f10 d10
      subst ef10
      have ef11 := hB.f11 d11
      subst ef11
      refine wpOp_step rfl fun K' hK' => ?_
      go_simp
      exact hK' _ _ (hK _ _ ⟨hs2, _, hl2, _, _, _, _, _, _, _, _, _, _, _, _, _, _, rfl, hB.s12 d11 q13 hw⟩)
    · obtain rfl := (Option.some.inj ho)
      have hno : L 13 = false := (hlk 13 (by decide)).symm.trans (getD_ft14 hsz (by decide) hl)
      obtain ⟨hs2, hl2⟩ := lnk14 hsz hlk (i := 13) (by decide)
      have d12 : L 12 = true := (hlk 12 (by decide)).symm.trans (hdep ⟨12, .data⟩ (by simp) rfl)
      obtain ⟨b12, ef12, -⟩ := hB.f12 d12
      subst ef12
      refine wpOp_step rfl fun K' hK' => ?_
      go_simp
      exact hK' _ _ (hK _ _ ⟨hs2, _, hl2, _, _, _, _, _, _, _, _, _, _, _, _, _, _, rfl, hB.s13 d12⟩)
  · intro listed a' W hI hall
    obtain ⟨hsz, L, hlk, x6, x15, x16, x17, x18, x19, x20, x21, x22, x23, x24, x25, x26, x27, rfl, hB⟩ := hI
    obtain ⟨b, sy, e6, hov, hC⟩ := hB.fin (fun j hj => (hlk j hj).symm.trans (hall j hj)) hb hN hn hev
    exact hQ W x6 x15 x16 x17 x18 x19 x20 x21 x22 x23 x24 x25 x26 x27 b sy e6 hov hC hB.bel
end Go.Proofs.YtkinilhapgagcaaDoor

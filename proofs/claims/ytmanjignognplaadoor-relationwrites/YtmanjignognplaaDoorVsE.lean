/-
  The document's parted, walked (walks/genvse.py writes it).
  KEEP: set below kept
-/
import Derived.Test.YtmanjignognplaaDoorVsD
import Derived.Laws.ResultCell
set_option linter.unusedSimpArgs false
set_option linter.unusedVariables false
namespace Go.Proofs.YtmanjignognplaaDoor
open Go Go.RowKit

/-- a box of a text's parts -/
def Bq (W : World) (D : Nat) (a b c : ByteArray) (x y : Bool) : Prop := W.heap[D]? = some (.cells #[.string a, .string b, .string c, .bool x, .bool y] 75 (0, 0))
section
variable {W : World} {D : Nat} {a b c : ByteArray} {x y : Bool}
theorem Bq.lt (h : Bq W D a b c x y) : D < W.heap.size := (Array.getElem?_eq_some_iff.1 h).1
theorem Bq.c0 (h : Bq W D a b c x y) : W.cell? ⟨D, 0, none⟩ = some (.string a) := by simp [World.cell?, show W.heap[D]? = _ from h]
theorem Bq.c1 (h : Bq W D a b c x y) : W.cell? ⟨D, 1, none⟩ = some (.string b) := by simp [World.cell?, show W.heap[D]? = _ from h]
theorem Bq.c2 (h : Bq W D a b c x y) : W.cell? ⟨D, 2, none⟩ = some (.string c) := by simp [World.cell?, show W.heap[D]? = _ from h]
theorem Bq.c3 (h : Bq W D a b c x y) : W.cell? ⟨D, 3, none⟩ = some (.bool x) := by simp [World.cell?, show W.heap[D]? = _ from h]
theorem Bq.c4 (h : Bq W D a b c x y) : W.cell? ⟨D, 4, none⟩ = some (.bool y) := by simp [World.cell?, show W.heap[D]? = _ from h]
theorem Bq.f (h : Bq W D a b c x y) (k : Nat) : W.frozen? ⟨D, k, none⟩ = false := by simp [World.frozen?, show W.heap[D]? = _ from h]
theorem Bq.newS (W : World) (a b c : ByteArray) (x y : Bool) (D : Nat) (h : D = W.heap.size) : Bq (W.alloc (.cells #[.string a, .string b, .string c, .bool x, .bool y] 75)) D a b c x y := by subst h; exact World.alloc_heap_new W _
theorem Bq.below {B : Nat} {W' : World} (h : Bq W D a b c x y) (hb : Below B W W') (hD : D < B) : Bq W' D a b c x y := (hb.block D hD).trans h
theorem Bq.set (h : Bq W D a b c x y) (k : Nat) (z : Value) : (W.setCell ⟨D, k, none⟩ z).heap[D]? = some (.cells (#[.string a, .string b, .string c, .bool x, .bool y].set! k z) 75 (0, 0)) := by
  obtain ⟨hlt, hk⟩ := Array.getElem?_eq_some_iff.1 h
  show (W.heap.modify D _)[D]? = _
  rw [Array.getElem?_eq_getElem (by rw [Array.size_modify]; exact hlt), Array.getElem_modify_self, hk]
  rfl
theorem Bq.s0 (h : Bq W D a b c x y) (z : ByteArray) : Bq (W.setCell ⟨D, 0, none⟩ (.string z)) D z b c x y := h.set 0 _
theorem Bq.s1 (h : Bq W D a b c x y) (z : ByteArray) : Bq (W.setCell ⟨D, 1, none⟩ (.string z)) D a z c x y := h.set 1 _
theorem Bq.s2 (h : Bq W D a b c x y) (z : ByteArray) : Bq (W.setCell ⟨D, 2, none⟩ (.string z)) D a b z x y := h.set 2 _
theorem Bq.s3 (h : Bq W D a b c x y) (z : Bool) : Bq (W.setCell ⟨D, 3, none⟩ (.bool z)) D a b c z y := h.set 3 _
theorem Bq.s4 (h : Bq W D a b c x y) (z : Bool) : Bq (W.setCell ⟨D, 4, none⟩ (.bool z)) D a b c x z := h.set 4 _
theorem Bq.off (h : Bq W D a b c x y) {E : Nat} (hE : D ≠ E) (k : Nat) (z : Value) : Bq (W.setCell ⟨E, k, none⟩ z) D a b c x y := (Below.heap_setCell _ _ _ _ hE).trans h
theorem belowQ {B : Nat} {w : World} (hb : Below B w W) (hD : B ≤ D) (k : Nat) (x : Value) : Below B w (W.setCell ⟨D, k, none⟩ x) := hb.setCell hD _
end
/-- the parts of a text, whether it is a version or not -/
def ptV (s : ByteArray) : Value := .agg #[.string (epS s), .string (upS (taS s)), .string (reS (taS s)), .bool (decide (0 ≤ iC s)), .bool (decide (0 ≤ iM (taS s)))]

set_option maxHeartbeats 3200000 in
theorem parted20_any (s : ByteArray) (w : World) (hs : s.size ≤ 281474976710656) :
    Calls Tryd.prog 39 #[.string s] w fun e w' => e = .returned (ptV s) ∧ Below w.heap.size w w' := by
  have HFi : Hid (∀ W, Calls Tryd.prog 58 #[.string s, .int .u8 58] W fun e w' => e = .returned (.int .i64 (iC s)) ∧ w' = W) := fun W => rFirst20_any s W hs
  by_cases hc : iC s < 0
  · have HE : Hid (epS s = ⟨#[]⟩) := by show _ = _; rw [epS, if_pos hc]
    have HT : Hid (taS s = s) := by show _ = _; rw [taS, if_pos hc]
    have HCb : Hid (decide (0 ≤ iC s) = false) := decide_eq_false (by omega)
    have HL : Hid (∀ W, Calls Tryd.prog 59 #[.string s, .int .u8 45] W fun e w' => e = .returned (.int .i64 (iM s)) ∧ w' = W) := fun W => rLast20_any s W hs
    have HTs : Hid (s.size ≤ 281474976710656) := hs
    have hI : iC s = -1 := by have := (iC_le s).1; omega
    rw [hI] at HFi
    clear hs hc hI
    go_enter Tryd.func39, Tryd.ntmps39
    go_wp2_with fail
    obtain ⟨W1, hW1⟩ : ∃ W1, W1 = ((w.alloc (.cells #[.string ⟨#[]⟩, .string ⟨#[]⟩, .string ⟨#[]⟩, .bool false, .bool false] 75)).alloc (.cells #[.string ⟨#[]⟩, .string s, .string ⟨#[]⟩, .bool false, .bool false] 75)) := ⟨_, rfl⟩
    have A0 : Hid (Bq W1 w.heap.size ⟨#[]⟩ ⟨#[]⟩ ⟨#[]⟩ false false) := by rw [hW1]; exact (Below.heap_alloc _ _ _ (by simp)).trans (World.alloc_heap_new w _)
    have A1 : Hid (Bq W1 (w.heap.size + 1) ⟨#[]⟩ s ⟨#[]⟩ false false) := by rw [hW1]; exact Bq.newS _ _ _ _ _ _ _ (by simp)
    have AB : Hid (Below w.heap.size w W1) := by rw [hW1]; exact Below.alloc (Below.alloc (Below.refl _ _) (Nat.le_refl _) _) (by simp) _
    rw [← hW1]
    clear hW1
    refine (HFi.out _).mono ?_
    rintro e w1 ⟨rfl, rfl⟩
    have k1 := A1.out.c1
    have B0 := A0
    have B1 := A1
    have BB := AB
    clear A0 A1 AB HFi
    go_wp2_with fail
    clear k1
    refine (HL.out _).mono ?_
    rintro e w2 ⟨rfl, rfl⟩
    have hi := iM_le s
    by_cases hm : iM s < 0
    · have HP : Hid (ptV s = .agg #[.string ⟨#[]⟩, .string s, .string ⟨#[]⟩, .bool false, .bool false]) := by show _ = _; rw [ptV, HE.out, HT.out, HCb.out, upS, if_pos hm, reS, if_pos hm, decide_eq_false (by omega)]
      rw [show iM s = -1 by omega]
      clear hm hi HL
      have z0 := B0.out.c0
      have zf0 := B0.out.f 0
      have z1 := B0.out.c1
      have zf1 := B0.out.f 1
      have z2 := B0.out.c2
      have zf2 := B0.out.f 2
      have z3 := B0.out.c3
      have zf3 := B0.out.f 3
      have z4 := B0.out.c4
      have zf4 := B0.out.f 4
      have HX : Hid (Bq (((((w2.setCell ⟨w.heap.size, 0, none⟩ (.string ⟨#[]⟩)).setCell ⟨w.heap.size, 1, none⟩ (.string s)).setCell ⟨w.heap.size, 2, none⟩ (.string ⟨#[]⟩)).setCell ⟨w.heap.size, 3, none⟩ (.bool false)).setCell ⟨w.heap.size, 4, none⟩ (.bool false)) w.heap.size ⟨#[]⟩ s ⟨#[]⟩ false false ∧ Below w.heap.size w (((((w2.setCell ⟨w.heap.size, 0, none⟩ (.string ⟨#[]⟩)).setCell ⟨w.heap.size, 1, none⟩ (.string s)).setCell ⟨w.heap.size, 2, none⟩ (.string ⟨#[]⟩)).setCell ⟨w.heap.size, 3, none⟩ (.bool false)).setCell ⟨w.heap.size, 4, none⟩ (.bool false))) := ⟨((((B0.out.s0 _).s1 _).s2 _).s3 _).s4 _, belowQ (belowQ (belowQ (belowQ (belowQ BB.out (Nat.le_refl _) _ _) (Nat.le_refl _) _ _) (Nat.le_refl _) _ _) (Nat.le_refl _) _ _) (Nat.le_refl _) _ _⟩
      have q0 := B1.out.c0
      have q1 := B1.out.c1
      have q2 := B1.out.c2
      have q3 := B1.out.c3
      have q4 := B1.out.c4
      go_wp2
      all_goals
        generalize (((((w2.setCell ⟨w.heap.size, 0, none⟩ (.string ⟨#[]⟩)).setCell ⟨w.heap.size, 1, none⟩ (.string s)).setCell ⟨w.heap.size, 2, none⟩ (.string ⟨#[]⟩)).setCell ⟨w.heap.size, 3, none⟩ (.bool false)).setCell ⟨w.heap.size, 4, none⟩ (.bool false)) = Wx at *
        refine bodyPost_ret (results_cell_row rfl _ _ w.heap.size 75 _ (0, 0) _ rfl HX.out.1 Tryd.underlying75 rfl (by kernel_rfl)) rfl ?_
        exact ⟨by rw [HP.out], HX.out.2⟩
    · obtain ⟨k, hk⟩ : ∃ k : Nat, iM s = k := ⟨(iM s).toNat, by omega⟩
      have hks : k < s.size := by omega
      have hsz : s.size ≤ 281474976710656 := HTs.out
      have HP : Hid (ptV s = .agg #[.string ⟨#[]⟩, .string (s.extract 0 k), .string (s.extract (k + 1) s.size), .bool false, .bool true]) := by
        show _ = _
        rw [ptV, HE.out, HT.out, HCb.out, upS, if_neg hm, reS, if_neg hm, decide_eq_true (by omega), hk]
        rfl
      rw [hk]
      have hw9 : IntKind.i64.wrap ((k : Int) + 1) = (k : Int) + 1 := by rw [IntKind.wrap_i64]; omega
      have hb1 : 0 ≤ (k : Int) + 1 ∧ (k : Int) + 1 ≤ (s.size : Int) := ⟨by omega, by omega⟩
      have hb2 : k ≤ s.size := by omega
      have q0 := B1.out.c0
      have q1 := B1.out.c1
      have q2 := B1.out.c2
      have q3 := B1.out.c3
      have q4 := B1.out.c4
      have g1 := B1.out.f 1
      have g2 := B1.out.f 2
      have g4 := B1.out.f 4
      clear hi hm hk HL
      go_upto_region 12 with fail
      have D1 : Hid (Bq (((w2.setCell ⟨w.heap.size + 1, 2, none⟩ (.string (s.extract (k + 1) s.size))).setCell ⟨w.heap.size + 1, 1, none⟩ (.string (s.extract 0 k))).setCell ⟨w.heap.size + 1, 4, none⟩ (.bool true)) (w.heap.size + 1) ⟨#[]⟩ (s.extract 0 k) (s.extract (k + 1) s.size) false true) := ((B1.out.s2 _).s1 _).s4 _
      have D0 : Hid (Bq (((w2.setCell ⟨w.heap.size + 1, 2, none⟩ (.string (s.extract (k + 1) s.size))).setCell ⟨w.heap.size + 1, 1, none⟩ (.string (s.extract 0 k))).setCell ⟨w.heap.size + 1, 4, none⟩ (.bool true)) w.heap.size ⟨#[]⟩ ⟨#[]⟩ ⟨#[]⟩ false false) := ((B0.out.off (by omega) _ _).off (by omega) _ _).off (by omega) _ _
      have DB : Hid (Below w.heap.size w (((w2.setCell ⟨w.heap.size + 1, 2, none⟩ (.string (s.extract (k + 1) s.size))).setCell ⟨w.heap.size + 1, 1, none⟩ (.string (s.extract 0 k))).setCell ⟨w.heap.size + 1, 4, none⟩ (.bool true))) := belowQ (belowQ (belowQ BB.out (by omega) _ _) (by omega) _ _) (by omega) _ _
      all_goals
        generalize ((w2.setCell ⟨w.heap.size + 1, 2, none⟩ (.string (s.extract (k + 1) s.size))).setCell ⟨w.heap.size + 1, 1, none⟩ (.string (s.extract 0 k))).setCell ⟨w.heap.size + 1, 4, none⟩ (.bool true) = w5 at *
        clear q0 q1 q2 q3 q4 g1 g2 g4 B0 B1 BB hb1 hb2 hw9 hks hsz
        generalize s.extract 0 k = U at *
        generalize s.extract (k + 1) s.size = R at *
        have B0 := D0
        have B1 := D1
        have BB := DB
        have z0 := B0.out.c0
        have zf0 := B0.out.f 0
        have z1 := B0.out.c1
        have zf1 := B0.out.f 1
        have z2 := B0.out.c2
        have zf2 := B0.out.f 2
        have z3 := B0.out.c3
        have zf3 := B0.out.f 3
        have z4 := B0.out.c4
        have zf4 := B0.out.f 4
        have HX : Hid (Bq (((((w5.setCell ⟨w.heap.size, 0, none⟩ (.string ⟨#[]⟩)).setCell ⟨w.heap.size, 1, none⟩ (.string U)).setCell ⟨w.heap.size, 2, none⟩ (.string R)).setCell ⟨w.heap.size, 3, none⟩ (.bool false)).setCell ⟨w.heap.size, 4, none⟩ (.bool true)) w.heap.size ⟨#[]⟩ U R false true ∧ Below w.heap.size w (((((w5.setCell ⟨w.heap.size, 0, none⟩ (.string ⟨#[]⟩)).setCell ⟨w.heap.size, 1, none⟩ (.string U)).setCell ⟨w.heap.size, 2, none⟩ (.string R)).setCell ⟨w.heap.size, 3, none⟩ (.bool false)).setCell ⟨w.heap.size, 4, none⟩ (.bool true))) := ⟨((((B0.out.s0 _).s1 _).s2 _).s3 _).s4 _, belowQ (belowQ (belowQ (belowQ (belowQ BB.out (Nat.le_refl _) _ _) (Nat.le_refl _) _ _) (Nat.le_refl _) _ _) (Nat.le_refl _) _ _) (Nat.le_refl _) _ _⟩
        have q0 := B1.out.c0
        have q1 := B1.out.c1
        have q2 := B1.out.c2
        have q3 := B1.out.c3
        have q4 := B1.out.c4
        go_wp2
        all_goals
          generalize (((((w5.setCell ⟨w.heap.size, 0, none⟩ (.string ⟨#[]⟩)).setCell ⟨w.heap.size, 1, none⟩ (.string U)).setCell ⟨w.heap.size, 2, none⟩ (.string R)).setCell ⟨w.heap.size, 3, none⟩ (.bool false)).setCell ⟨w.heap.size, 4, none⟩ (.bool true)) = Wx at *
          refine bodyPost_ret (results_cell_row rfl _ _ w.heap.size 75 _ (0, 0) _ rfl HX.out.1 Tryd.underlying75 rfl (by kernel_rfl)) rfl ?_
          exact ⟨by rw [HP.out], HX.out.2⟩
  · obtain ⟨k0, hk0⟩ : ∃ k0 : Nat, iC s = k0 := ⟨(iC s).toNat, by omega⟩
    have hlt0 : k0 < s.size := by have := (iC_le s).2; omega
    have HE' : epS s = s.extract 0 k0 := by rw [epS, if_neg hc, hk0]; rfl
    have HT' : taS s = s.extract (k0 + 1) s.size := by rw [taS, if_neg hc, hk0]; rfl
    have hsT' : (s.extract (k0 + 1) s.size).size ≤ 281474976710656 := by rw [ByteArray.size_extract]; omega
    have HCb : Hid (decide (0 ≤ iC s) = true) := decide_eq_true (by omega)
    rw [hk0] at HFi
    have HL : Hid (∀ W, Calls Tryd.prog 59 #[.string (s.extract (k0 + 1) s.size), .int .u8 45] W fun e w' => e = .returned (.int .i64 (iM (s.extract (k0 + 1) s.size))) ∧ w' = W) := fun W => rLast20_any _ W hsT'
    have HTs : Hid ((s.extract (k0 + 1) s.size).size ≤ 281474976710656) := hsT'
    have HE : Hid (epS s = s.extract 0 k0) := HE'
    have HT : Hid (taS s = s.extract (k0 + 1) s.size) := HT'
    have hw0 : IntKind.i64.wrap ((k0 : Int) + 1) = (k0 : Int) + 1 := by rw [IntKind.wrap_i64]; omega
    have hb1 : 0 ≤ (k0 : Int) + 1 ∧ (k0 : Int) + 1 ≤ (s.size : Int) := ⟨by omega, by omega⟩
    have hb2 : k0 ≤ s.size := by omega
    clear HE' HT' hsT' hk0 hc
    go_enter Tryd.func39, Tryd.ntmps39
    go_wp2_with fail
    obtain ⟨W1, hW1⟩ : ∃ W1, W1 = ((w.alloc (.cells #[.string ⟨#[]⟩, .string ⟨#[]⟩, .string ⟨#[]⟩, .bool false, .bool false] 75)).alloc (.cells #[.string ⟨#[]⟩, .string s, .string ⟨#[]⟩, .bool false, .bool false] 75)) := ⟨_, rfl⟩
    have A0 : Hid (Bq W1 w.heap.size ⟨#[]⟩ ⟨#[]⟩ ⟨#[]⟩ false false) := by rw [hW1]; exact (Below.heap_alloc _ _ _ (by simp)).trans (World.alloc_heap_new w _)
    have A1 : Hid (Bq W1 (w.heap.size + 1) ⟨#[]⟩ s ⟨#[]⟩ false false) := by rw [hW1]; exact Bq.newS _ _ _ _ _ _ _ (by simp)
    have AB : Hid (Below w.heap.size w W1) := by rw [hW1]; exact Below.alloc (Below.alloc (Below.refl _ _) (Nat.le_refl _) _) (by simp) _
    rw [← hW1]
    clear hW1
    refine (HFi.out _).mono ?_
    rintro e w1 ⟨rfl, rfl⟩
    have k0' := A1.out.c0
    have k1 := A1.out.c1
    have k2 := A1.out.c2
    have k3 := A1.out.c3
    have k4 := A1.out.c4
    have f0 := A1.out.f 0
    have f1 := A1.out.f 1
    have f3 := A1.out.f 3
    clear HFi
    have l1 := (((A1.out.s0 (s.extract 0 k0)).s1 (s.extract (k0 + 1) s.size)).s3 true).c1
    go_wp2_with fail
    have B1' : Hid (Bq (((w1.setCell ⟨w.heap.size + 1, 0, none⟩ (.string (s.extract 0 k0))).setCell ⟨w.heap.size + 1, 1, none⟩ (.string (s.extract (k0 + 1) s.size))).setCell ⟨w.heap.size + 1, 3, none⟩ (.bool true)) (w.heap.size + 1) (s.extract 0 k0) (s.extract (k0 + 1) s.size) ⟨#[]⟩ true false) := ((A1.out.s0 _).s1 _).s3 _
    have B0' : Hid (Bq (((w1.setCell ⟨w.heap.size + 1, 0, none⟩ (.string (s.extract 0 k0))).setCell ⟨w.heap.size + 1, 1, none⟩ (.string (s.extract (k0 + 1) s.size))).setCell ⟨w.heap.size + 1, 3, none⟩ (.bool true)) w.heap.size ⟨#[]⟩ ⟨#[]⟩ ⟨#[]⟩ false false) := ((A0.out.off (by omega) _ _).off (by omega) _ _).off (by omega) _ _
    have BB' : Hid (Below w.heap.size w (((w1.setCell ⟨w.heap.size + 1, 0, none⟩ (.string (s.extract 0 k0))).setCell ⟨w.heap.size + 1, 1, none⟩ (.string (s.extract (k0 + 1) s.size))).setCell ⟨w.heap.size + 1, 3, none⟩ (.bool true))) := belowQ (belowQ (belowQ AB.out (by omega) _ _) (by omega) _ _) (by omega) _ _
    all_goals
      generalize ((w1.setCell ⟨w.heap.size + 1, 0, none⟩ (.string (s.extract 0 k0))).setCell ⟨w.heap.size + 1, 1, none⟩ (.string (s.extract (k0 + 1) s.size))).setCell ⟨w.heap.size + 1, 3, none⟩ (.bool true) = w9 at *
      clear k0' k1 k2 k3 k4 f0 f1 f3 l1 A0 A1 AB hw0 hb1 hb2 hlt0
      generalize s.extract 0 k0 = E at *
      generalize s.extract (k0 + 1) s.size = T at *
      have B0 := B0'
      have B1 := B1'
      have BB := BB'
      refine (HL.out _).mono ?_
      rintro e w2 ⟨rfl, rfl⟩
      have hi := iM_le T
      by_cases hm : iM T < 0
      · have HP : Hid (ptV s = .agg #[.string E, .string T, .string ⟨#[]⟩, .bool true, .bool false]) := by show _ = _; rw [ptV, HE.out, HT.out, HCb.out, upS, if_pos hm, reS, if_pos hm, decide_eq_false (by omega)]
        rw [show iM T = -1 by omega]
        clear hm hi HL
        have z0 := B0.out.c0
        have zf0 := B0.out.f 0
        have z1 := B0.out.c1
        have zf1 := B0.out.f 1
        have z2 := B0.out.c2
        have zf2 := B0.out.f 2
        have z3 := B0.out.c3
        have zf3 := B0.out.f 3
        have z4 := B0.out.c4
        have zf4 := B0.out.f 4
        have HX : Hid (Bq (((((w2.setCell ⟨w.heap.size, 0, none⟩ (.string E)).setCell ⟨w.heap.size, 1, none⟩ (.string T)).setCell ⟨w.heap.size, 2, none⟩ (.string ⟨#[]⟩)).setCell ⟨w.heap.size, 3, none⟩ (.bool true)).setCell ⟨w.heap.size, 4, none⟩ (.bool false)) w.heap.size E T ⟨#[]⟩ true false ∧ Below w.heap.size w (((((w2.setCell ⟨w.heap.size, 0, none⟩ (.string E)).setCell ⟨w.heap.size, 1, none⟩ (.string T)).setCell ⟨w.heap.size, 2, none⟩ (.string ⟨#[]⟩)).setCell ⟨w.heap.size, 3, none⟩ (.bool true)).setCell ⟨w.heap.size, 4, none⟩ (.bool false))) := ⟨((((B0.out.s0 _).s1 _).s2 _).s3 _).s4 _, belowQ (belowQ (belowQ (belowQ (belowQ BB.out (Nat.le_refl _) _ _) (Nat.le_refl _) _ _) (Nat.le_refl _) _ _) (Nat.le_refl _) _ _) (Nat.le_refl _) _ _⟩
        have q0 := B1.out.c0
        have q1 := B1.out.c1
        have q2 := B1.out.c2
        have q3 := B1.out.c3
        have q4 := B1.out.c4
        go_wp2
        all_goals
          generalize (((((w2.setCell ⟨w.heap.size, 0, none⟩ (.string E)).setCell ⟨w.heap.size, 1, none⟩ (.string T)).setCell ⟨w.heap.size, 2, none⟩ (.string ⟨#[]⟩)).setCell ⟨w.heap.size, 3, none⟩ (.bool true)).setCell ⟨w.heap.size, 4, none⟩ (.bool false)) = Wx at *
          refine bodyPost_ret (results_cell_row rfl _ _ w.heap.size 75 _ (0, 0) _ rfl HX.out.1 Tryd.underlying75 rfl (by kernel_rfl)) rfl ?_
          exact ⟨by rw [HP.out], HX.out.2⟩
      · obtain ⟨k, hk⟩ : ∃ k : Nat, iM T = k := ⟨(iM T).toNat, by omega⟩
        have hks : k < T.size := by omega
        have hsz : T.size ≤ 281474976710656 := HTs.out
        have HP : Hid (ptV s = .agg #[.string E, .string (T.extract 0 k), .string (T.extract (k + 1) T.size), .bool true, .bool true]) := by
          show _ = _
          rw [ptV, HE.out, HT.out, HCb.out, upS, if_neg hm, reS, if_neg hm, decide_eq_true (by omega), hk]
          rfl
        rw [hk]
        have hw9 : IntKind.i64.wrap ((k : Int) + 1) = (k : Int) + 1 := by rw [IntKind.wrap_i64]; omega
        have hb1 : 0 ≤ (k : Int) + 1 ∧ (k : Int) + 1 ≤ (T.size : Int) := ⟨by omega, by omega⟩
        have hb2 : k ≤ T.size := by omega
        have q0 := B1.out.c0
        have q1 := B1.out.c1
        have q2 := B1.out.c2
        have q3 := B1.out.c3
        have q4 := B1.out.c4
        have g1 := B1.out.f 1
        have g2 := B1.out.f 2
        have g4 := B1.out.f 4
        clear hi hm hk HL
        go_upto_region 12 with fail
        have D1 : Hid (Bq (((w2.setCell ⟨w.heap.size + 1, 2, none⟩ (.string (T.extract (k + 1) T.size))).setCell ⟨w.heap.size + 1, 1, none⟩ (.string (T.extract 0 k))).setCell ⟨w.heap.size + 1, 4, none⟩ (.bool true)) (w.heap.size + 1) E (T.extract 0 k) (T.extract (k + 1) T.size) true true) := ((B1.out.s2 _).s1 _).s4 _
        have D0 : Hid (Bq (((w2.setCell ⟨w.heap.size + 1, 2, none⟩ (.string (T.extract (k + 1) T.size))).setCell ⟨w.heap.size + 1, 1, none⟩ (.string (T.extract 0 k))).setCell ⟨w.heap.size + 1, 4, none⟩ (.bool true)) w.heap.size ⟨#[]⟩ ⟨#[]⟩ ⟨#[]⟩ false false) := ((B0.out.off (by omega) _ _).off (by omega) _ _).off (by omega) _ _
        have DB : Hid (Below w.heap.size w (((w2.setCell ⟨w.heap.size + 1, 2, none⟩ (.string (T.extract (k + 1) T.size))).setCell ⟨w.heap.size + 1, 1, none⟩ (.string (T.extract 0 k))).setCell ⟨w.heap.size + 1, 4, none⟩ (.bool true))) := belowQ (belowQ (belowQ BB.out (by omega) _ _) (by omega) _ _) (by omega) _ _
        all_goals
          generalize ((w2.setCell ⟨w.heap.size + 1, 2, none⟩ (.string (T.extract (k + 1) T.size))).setCell ⟨w.heap.size + 1, 1, none⟩ (.string (T.extract 0 k))).setCell ⟨w.heap.size + 1, 4, none⟩ (.bool true) = w5 at *
          clear q0 q1 q2 q3 q4 g1 g2 g4 B0 B1 BB hb1 hb2 hw9 hks hsz
          generalize T.extract 0 k = U at *
          generalize T.extract (k + 1) T.size = R at *
          have B0 := D0
          have B1 := D1
          have BB := DB
          have z0 := B0.out.c0
          have zf0 := B0.out.f 0
          have z1 := B0.out.c1
          have zf1 := B0.out.f 1
          have z2 := B0.out.c2
          have zf2 := B0.out.f 2
          have z3 := B0.out.c3
          have zf3 := B0.out.f 3
          have z4 := B0.out.c4
          have zf4 := B0.out.f 4
          have HX : Hid (Bq (((((w5.setCell ⟨w.heap.size, 0, none⟩ (.string E)).setCell ⟨w.heap.size, 1, none⟩ (.string U)).setCell ⟨w.heap.size, 2, none⟩ (.string R)).setCell ⟨w.heap.size, 3, none⟩ (.bool true)).setCell ⟨w.heap.size, 4, none⟩ (.bool true)) w.heap.size E U R true true ∧ Below w.heap.size w (((((w5.setCell ⟨w.heap.size, 0, none⟩ (.string E)).setCell ⟨w.heap.size, 1, none⟩ (.string U)).setCell ⟨w.heap.size, 2, none⟩ (.string R)).setCell ⟨w.heap.size, 3, none⟩ (.bool true)).setCell ⟨w.heap.size, 4, none⟩ (.bool true))) := ⟨((((B0.out.s0 _).s1 _).s2 _).s3 _).s4 _, belowQ (belowQ (belowQ (belowQ (belowQ BB.out (Nat.le_refl _) _ _) (Nat.le_refl _) _ _) (Nat.le_refl _) _ _) (Nat.le_refl _) _ _) (Nat.le_refl _) _ _⟩
          have q0 := B1.out.c0
          have q1 := B1.out.c1
          have q2 := B1.out.c2
          have q3 := B1.out.c3
          have q4 := B1.out.c4
          go_wp2
          all_goals
            generalize (((((w5.setCell ⟨w.heap.size, 0, none⟩ (.string E)).setCell ⟨w.heap.size, 1, none⟩ (.string U)).setCell ⟨w.heap.size, 2, none⟩ (.string R)).setCell ⟨w.heap.size, 3, none⟩ (.bool true)).setCell ⟨w.heap.size, 4, none⟩ (.bool true)) = Wx at *
            refine bodyPost_ret (results_cell_row rfl _ _ w.heap.size 75 _ (0, 0) _ rfl HX.out.1 Tryd.underlying75 rfl (by kernel_rfl)) rfl ?_
            exact ⟨by rw [HP.out], HX.out.2⟩

end Go.Proofs.YtmanjignognplaaDoor

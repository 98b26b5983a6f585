/-
  watch, at one small formula: isTrue, isFalse, Depth, height, highest.
  KEEP: set on app at below new trans refl start ap kept rd rds mono lt add none own nil put len pos setF setV putL putR other neV same_any
-/
import Derived.Test.YtljcdlpjnpcdmaaWn
set_option linter.unusedSimpArgs false
set_option linter.unusedVariables false
namespace Go.Proofs.Ytljcdlpjnpcdmaa
open Go Go.RowKit

theorem wTrue_any (b g c i : Nat) (z : Int) (w : World) (h4 : w.cell? ⟨b, 4, none⟩ = some (.slice (some ⟨g, 0, none⟩) 4 c)) (hi : i < 4) (hz : w.cell? ⟨g, i, none⟩ = some (.int .i32 z)) :
    Calls Try.prog 24 #[.pointer (some ⟨b, 0, none⟩), .int .i32 i] w fun e w' => e = .returned (.bool (decide (0 < z))) ∧ w' = w := by
  go_enter Try.func24, Try.ntmps24
  go_wp2
  go_ret
  exact ⟨rfl, rfl⟩
theorem wFalse0_any (b g c : Nat) (z : Int) (w : World) (h4 : w.cell? ⟨b, 4, none⟩ = some (.slice (some ⟨g, 0, none⟩) 4 c)) (hz : w.cell? ⟨g, 1, none⟩ = some (.int .i32 z)) :
    Calls Try.prog 25 #[.pointer (some ⟨b, 0, none⟩), .int .i32 0] w fun e w' => e = .returned (.bool (decide (0 < z))) ∧ w' = w := by
  have hx : bits BinOp.xor IntKind.i32 0 1 = 1 := by decide
  go_enter Try.func25, Try.ntmps25
  go_wp2
  go_ret
  exact ⟨rfl, rfl⟩
theorem wFalse1_any (b g c : Nat) (z : Int) (w : World) (h4 : w.cell? ⟨b, 4, none⟩ = some (.slice (some ⟨g, 0, none⟩) 4 c)) (hz : w.cell? ⟨g, 0, none⟩ = some (.int .i32 z)) :
    Calls Try.prog 25 #[.pointer (some ⟨b, 0, none⟩), .int .i32 1] w fun e w' => e = .returned (.bool (decide (0 < z))) ∧ w' = w := by
  have hx : bits BinOp.xor IntKind.i32 1 1 = 0 := by decide
  go_enter Try.func25, Try.ntmps25
  go_wp2
  go_ret
  exact ⟨rfl, rfl⟩
theorem wDepth_any (b : Nat) (a : Option Addr) (c : Nat) (w : World) (h7 : w.cell? ⟨b, 7, none⟩ = some (.slice a 1 c)) :
    Calls Try.prog 17 #[.pointer (some ⟨b, 0, none⟩)] w fun e w' => e = .returned (.int .i64 0) ∧ w' = w := by
  go_enter Try.func17, Try.ntmps17
  go_wp2
  go_ret
  exact ⟨rfl, rfl⟩
theorem wHeightN_any (b gC : Nat) (w : World) :
    Calls Try.prog 48 #[.pointer (some ⟨b, 0, none⟩), .pointer (some ⟨gC, 0, none⟩), .int .i64 (-1)] w fun e w' => e = .returned (.int .i64 (-1)) ∧ w' = w := by
  go_enter Try.func48, Try.ntmps48
  go_wp2
  go_ret
  exact ⟨rfl, rfl⟩
theorem wHeight0_any (b gC gL cL g c : Nat) (w : World) (h4 : w.cell? ⟨b, 4, none⟩ = some (.slice (some ⟨g, 0, none⟩) 4 c)) (hz : w.cell? ⟨g, 1, none⟩ = some (.int .i32 0)) (hC : w.cell? ⟨gC, 0, none⟩ = some (.slice (some ⟨gL, 0, none⟩) 1 cL)) (hL : w.cell? ⟨gL, 0, none⟩ = some (.int .i32 0)) :
    Calls Try.prog 48 #[.pointer (some ⟨b, 0, none⟩), .pointer (some ⟨gC, 0, none⟩), .int .i64 0] w fun e w' => e = .returned (.int .i64 9223372036854775807) ∧ w' = w := by
  have HF : Hid (Calls Try.prog 25 #[.pointer (some ⟨b, 0, none⟩), .int .i32 0] w fun e w' => e = .returned (.bool (decide ((0 : Int) < 0))) ∧ w' = w) := wFalse0_any b g c 0 w h4 hz
  go_enter Try.func48, Try.ntmps48
  go_wp2_with fail
  refine Calls.mono HF.out ?_
  rintro e w1 ⟨rfl, hw1⟩
  obtain rfl : w = w1 := hw1.symm
  clear hw1
  go_wp2
  go_ret
  exact ⟨rfl, rfl⟩
set_option maxRecDepth 100000 in
theorem wHighest_any (b gC gL cL g c : Nat) (w : World) (h4 : w.cell? ⟨b, 4, none⟩ = some (.slice (some ⟨g, 0, none⟩) 4 c)) (hz : w.cell? ⟨g, 1, none⟩ = some (.int .i32 0)) (hC : w.cell? ⟨gC, 0, none⟩ = some (.slice (some ⟨gL, 0, none⟩) 1 cL)) (hL : w.cell? ⟨gL, 0, none⟩ = some (.int .i32 0)) :
    Calls Try.prog 47 #[.pointer (some ⟨b, 0, none⟩), .pointer (some ⟨gC, 0, none⟩)] w fun e w' => e = .returned (.agg #[.int .i64 0, .int .i64 (-1)]) ∧ Below w.heap.size w w' := by
  have HN : Hid (∀ W, Below w.heap.size w W → Calls Try.prog 48 #[.pointer (some ⟨b, 0, none⟩), .pointer (some ⟨gC, 0, none⟩), .int .i64 (-1)] W fun e w' => e = .returned (.int .i64 (-1)) ∧ w' = W) := fun W _ => wHeightN_any b gC W
  have H0 : Hid (∀ W, Below w.heap.size w W → Calls Try.prog 48 #[.pointer (some ⟨b, 0, none⟩), .pointer (some ⟨gC, 0, none⟩), .int .i64 0] W fun e w' => e = .returned (.int .i64 9223372036854775807) ∧ w' = W) := fun W hW =>
    wHeight0_any b gC gL cL g c W ((hW.cell (p := ⟨b, 4, none⟩) (World.block_lt_of_cell? w _ h4)).trans h4) ((hW.cell (p := ⟨g, 1, none⟩) (World.block_lt_of_cell? w _ hz)).trans hz) ((hW.cell (p := ⟨gC, 0, none⟩) (World.block_lt_of_cell? w _ hC)).trans hC) ((hW.cell (p := ⟨gL, 0, none⟩) (World.block_lt_of_cell? w _ hL)).trans hL)
  have hlt := World.block_lt_of_cell? w _ hC
  go_enter Try.func47, Try.ntmps47
  go_wp2
  go_loopg [6, 7, 14] 1 (fun q x6 x7 k' wr => ∃ (k : Nat) (p1 : Int), k + q = 1 ∧ k' = .int .i64 k ∧ (k = 0 ∧ p1 = -1 ∨ k = 1 ∧ p1 = 0) ∧ Below w.heap.size w wr ∧ Bx2 wr (w.heap.size + 1) 73 (.int .i64 p1) (.int .i64 (-1)) ∧ Bx2 wr w.heap.size 73 (.int .i64 0) (.int .i64 0))
  case atStart =>
    refine ⟨0, -1, by omega, rfl, .inl ⟨rfl, rfl⟩, ?_, ?_, ?_⟩
    · exact Below.step (below_box _ _) (below_box _ _)
    · have := Bx2.new (w.alloc (.cells #[.int .i64 0, .int .i64 0] 73)) 73 (.int .i64 (-1)) (.int .i64 (-1))
      rwa [World.size_alloc] at this
    · exact (Bx2.new w 73 (.int .i64 0) (.int .i64 0)).below (below_box _ _)
  case round =>
    obtain ⟨k, p1, hk, rfl, hc, hb, hx, hy⟩ := hrel
    have HS : Hid (Below w.heap.size w wr ∧ Bx2 wr (w.heap.size + 1) 73 (.int .i64 p1) (.int .i64 (-1)) ∧ Bx2 wr w.heap.size 73 (.int .i64 0) (.int .i64 0)) := ⟨hb, hx, hy⟩
    rcases hc with ⟨rfl, rfl⟩ | ⟨rfl, rfl⟩
    · have x0 := hx.c0
      have x1 := hx.c1
      clear hb hx hy
      go_wp2_with fail
      refine Calls.mono (H0.out wr HS.out.1) ?_
      rintro e w1 ⟨rfl, hw1⟩
      obtain rfl : wr = w1 := hw1.symm
      clear hw1
      go_wp2_with fail
      refine Calls.mono (HN.out wr HS.out.1) ?_
      rintro e w1 ⟨rfl, hw1⟩
      obtain rfl : wr = w1 := hw1.symm
      clear hw1
      have f0 := HS.out.2.1.f0
      have f1 := (HS.out.2.1.set0 (.int .i64 0)).f1
      have y1 := (HS.out.2.1.set0 (.int .i64 0)).c1
      have HN1 : Hid (Below w.heap.size w ((wr.setCell ⟨w.heap.size + 1, 0, none⟩ (.int .i64 0)).setCell ⟨w.heap.size + 1, 1, none⟩ (.int .i64 (-1))) ∧ Bx2 ((wr.setCell ⟨w.heap.size + 1, 0, none⟩ (.int .i64 0)).setCell ⟨w.heap.size + 1, 1, none⟩ (.int .i64 (-1))) (w.heap.size + 1) 73 (.int .i64 0) (.int .i64 (-1)) ∧ Bx2 ((wr.setCell ⟨w.heap.size + 1, 0, none⟩ (.int .i64 0)).setCell ⟨w.heap.size + 1, 1, none⟩ (.int .i64 (-1))) w.heap.size 73 (.int .i64 0) (.int .i64 0)) := by
        have hne : some w.heap.size ≠ some (w.heap.size + 1) := by simp
        exact ⟨(HS.out.1.setCell (p := ⟨w.heap.size + 1, 0, none⟩) (Nat.le_succ _) _).setCell (p := ⟨w.heap.size + 1, 1, none⟩) (Nat.le_succ _) _, (HS.out.2.1.set0 _).set1 _, (HS.out.2.2.kept (grown_set _ _ _) hne).kept (grown_set _ _ _) hne⟩
      go_wp2
      go_roundg 0
      case measure => omega
      case rel => exact ⟨1, 0, by omega, by go_num, .inr ⟨rfl, rfl⟩, HN1.out.1, HN1.out.2.1, HN1.out.2.2⟩
    · have x0 := hx.c0
      have x1 := hx.c1
      have y0 := hy.c0
      have f0 := hy.f0
      have f1 := (hy.set0 (.int .i64 0)).f1
      have y1 := (hy.set0 (.int .i64 0)).c1
      have z0 := ((hy.set0 (.int .i64 0)).set1 (.int .i64 (-1))).c0
      have z1 := ((hy.set0 (.int .i64 0)).set1 (.int .i64 (-1))).c1
      have HN1 : Hid (Below w.heap.size w ((wr.setCell ⟨w.heap.size, 0, none⟩ (.int .i64 0)).setCell ⟨w.heap.size, 1, none⟩ (.int .i64 (-1)))) := (HS.out.1.setCell (p := ⟨w.heap.size, 0, none⟩) (Nat.le_refl _) _).setCell (p := ⟨w.heap.size, 1, none⟩) (Nat.le_refl _) _
      have HBf : Hid (Bx2 ((wr.setCell ⟨w.heap.size, 0, none⟩ (.int .i64 0)).setCell ⟨w.heap.size, 1, none⟩ (.int .i64 (-1))) w.heap.size 73 (.int .i64 0) (.int .i64 (-1))) := (hy.set0 _).set1 _
      clear hb hx hy
      go_wp2
      refine bodyPost_ret (results_cell_row rfl _ _ w.heap.size 73 #[.int .i64 0, .int .i64 (-1)] (0, 0) _ rfl HBf.out Try.underlying73 rfl (by kernel_rfl)) rfl ?_
      exact ⟨rfl, HN1.out⟩
end Go.Proofs.Ytljcdlpjnpcdmaa

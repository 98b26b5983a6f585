/-
  PackNumbers, walked.
  KEEP: len below nil form rd mono rdz on app start at new trans refl kept own row ap out step
-/
import Derived.Test.YtaalgilickkggaaPkF
import Derived.Test.YtaalgilickkggaaPkQ
set_option linter.unusedSimpArgs false
set_option linter.unusedVariables false
namespace Go.Proofs.Ytaalgilickkggaa
open Go Go.RowKit

theorem rdy_lit (W : World) (T : List UInt8) (hT : T.length ≤ 1000) : RdY (W.alloc (.cells (Lib.byteCells T).toArray 5)) (.slice (some ⟨W.heap.size, 0, none⟩) T.length T.length) T := by
  refine ⟨by omega, _, T.length, rfl, Nat.le_refl _, by unfold maxLen; omega, fun h => (by cases h), fun _ => ⟨W.heap.size, 0, rfl, by simp, fun j hj => ?_⟩⟩
  rw [World.cell?_alloc_mark]
  simp [Lib.byteCells, List.getD_eq_getElem?_getD, hj]
theorem rdz_lit (W : World) : RdZ ((W.alloc (.cells #[.int .i64 0] 3)).alloc (.cells #[.bool false, .slice (some ⟨W.heap.size, 0, none⟩) 1 1] 31)) (.slice (some ⟨W.heap.size + 1, 0, none⟩) 1 1) [(false, [0])] := by
  have h0 : Rd (W.alloc (.cells #[.int .i64 0] 3)) (.slice (some ⟨W.heap.size, 0, none⟩) 1 1) [0] := by
    refine ⟨by simp, _, 1, rfl, by simp, by unfold maxLen; omega, fun h => (by cases h), fun _ => ⟨W.heap.size, 0, rfl, by simp, fun j hj => ?_⟩⟩
    obtain rfl : j = 0 := by simp at hj; omega
    rw [World.cell?_alloc_mark]; rfl
  have hs : (W.alloc (.cells #[.int .i64 0] 3)).heap.size = W.heap.size + 1 := by simp
  refine ⟨by simp, _, 1, rfl, by simp, by unfold maxLen; omega, fun _ => ⟨W.heap.size + 1, 0, rfl, by simp, fun j hj => ?_⟩⟩
  obtain rfl : j = 0 := by simp at hj; omega
  refine ⟨.slice (some ⟨W.heap.size, 0, none⟩) 1 1, ?_, ?_, h0.below (below_box _ _)⟩
  · rw [← hs, World.cell?_alloc_mark]; rfl
  · rw [← hs, World.cell?_alloc_mark]; rfl
theorem rdy2 (W : World) : RdY (W.alloc (.cells #[.int .u8 128, .int .u8 0] 5)) (.slice (some ⟨W.heap.size, 0, none⟩) 2 2) [128, 0] := rdy_lit W [128, 0] (by decide)
theorem rdy3 (W : World) : RdY (W.alloc (.cells #[.int .u8 97, .int .u8 0, .int .u8 98] 5)) (.slice (some ⟨W.heap.size, 0, none⟩) 3 3) [97, 0, 98] := rdy_lit W [97, 0, 98] (by decide)
theorem snd10 : sndS [(false, [0])] = false := by decide
theorem ez1 : ez [(false, [0])] ≤ 1099511627776 := by show 12 ≤ 1099511627776; omega
theorem dec10 : decB [97, 0, 98] = ([], 100, 2) := by decide
theorem tk10 : tkB 0 0 [128, 0] = (0, 0, 101) := by decide

namespace packNumbers
set_option maxHeartbeats 3200000 in
set_option maxRecDepth 100000 in
theorem walk (w : World) :
    Calls Try.prog 3 #[] w fun e w' => e = .returned (.bool true) ∧ RowKit.Below w.heap.size w w' := by
  have H1 : Hid (∀ W : World, Calls Try.prog 8 #[.slice none 0 0] W fun e w' => e = .returned (.tuple #[.int .u64 0, .int .i64 0, .int .i64 33]) ∧ w' = W) := fun W => take_any _ [] W (RdY.nil W)
  have H2 : Hid (∀ W : World, Calls Try.prog 8 #[.slice (some ⟨W.heap.size, 0, none⟩) 2 2] (W.alloc (.cells #[.int .u8 128, .int .u8 0] 5)) fun e w' => e = .returned (.tuple #[.int .u64 0, .int .i64 0, .int .i64 101]) ∧ w' = W.alloc (.cells #[.int .u8 128, .int .u8 0] 5)) := fun W => by
    have := take_any _ [128, 0] _ (rdy2 W)
    rw [tk10] at this
    exact this
  have H3 : Hid (∀ W : World, Calls Try.prog 9 #[.slice (some ⟨W.heap.size + 1, 0, none⟩) 1 1] ((W.alloc (.cells #[.int .i64 0] 3)).alloc (.cells #[.bool false, .slice (some ⟨W.heap.size, 0, none⟩) 1 1] 31)) fun e w' => ∃ v, e = .returned (.tuple #[v, .int .i64 1]) ∧ Below ((W.alloc (.cells #[.int .i64 0] 3)).alloc (.cells #[.bool false, .slice (some ⟨W.heap.size, 0, none⟩) 1 1] 31)).heap.size ((W.alloc (.cells #[.int .i64 0] 3)).alloc (.cells #[.bool false, .slice (some ⟨W.heap.size, 0, none⟩) 1 1] 31)) w') := fun W => by
    have := encode_any _ [(false, [0])] _ (rdz_lit W) ez1
    rw [snd10] at this
    exact this.mono fun e w' ⟨v, h1, _, h2⟩ => ⟨v, h1, h2⟩
  have H4 : Hid (∀ W : World, Calls Try.prog 10 #[.slice (some ⟨W.heap.size, 0, none⟩) 3 3] (W.alloc (.cells #[.int .u8 97, .int .u8 0, .int .u8 98] 5)) fun e w' => ∃ v, e = .returned (.tuple #[v, .int .i64 100, .int .i64 2]) ∧ Below (W.alloc (.cells #[.int .u8 97, .int .u8 0, .int .u8 98] 5)).heap.size (W.alloc (.cells #[.int .u8 97, .int .u8 0, .int .u8 98] 5)) w') := fun W => by
    have := decode_any _ _ [97, 0, 98] (rdy3 W) (by show 3 ≤ 1099511627776; omega)
    rw [dec10] at this
    exact this.mono fun e w' ⟨v, h1, _, h2⟩ => ⟨v, h1, h2⟩
  go_enter Try.func3, Try.ntmps3
  go_wp2_with fail
  refine (H1.out _).mono ?_
  rintro e w1 ⟨rfl, rfl⟩
  go_wp2_with fail
  refine (H2.out _).mono ?_
  rintro e w2 ⟨rfl, hw2⟩
  have bel2 : Below w1.heap.size w1 w2 := by rw [hw2]; exact below_box _ _
  clear hw2
  go_wp2_with fail
  refine (H3.out _).mono ?_
  rintro e w3 ⟨v3, rfl, bel3⟩
  have bel3' : Below w2.heap.size w2 w3 := Below.step (Below.step (below_box _ _) (below_box _ _)) bel3
  clear bel3
  go_wp2_with fail
  refine (H4.out _).mono ?_
  rintro e w4 ⟨v4, rfl, bel4⟩
  have bel4' : Below w3.heap.size w3 w4 := Below.step (below_box _ _) bel4
  clear bel4
  go_wp2
  go_ret
  exact ⟨rfl, Below.step (Below.step bel2 bel3') bel4'⟩

end packNumbers
end Go.Proofs.Ytaalgilickkggaa

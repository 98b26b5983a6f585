/-
  DratNumbers: the walk.
  KEEP: below
-/
import Derived.Test.YtaipajalkendaaaDoorDrGv
set_option linter.unusedSimpArgs false
set_option linter.unusedVariables false
namespace Go.Proofs.YtaipajalkendaaaDoor.dratNumbers
open Go Go.RowKit Go.Proofs.YtaipajalkendaaaDoor

def one0 : ByteArray := ⟨#[49, 32, 48]⟩
theorem par_one : (parD one0.data.toList).1 = [(false, [1])] := by decide
theorem one_read (A : World) : RdZ (((A.alloc (.cells #[.int .i64 1] 3)).alloc (.cells #[.bool false, .slice (some ⟨A.heap.size, 0, none⟩) 1 1] 41))) (.slice (some ⟨A.heap.size + 1, 0, none⟩) 1 1) [(false, [1])] := by
  have b1 : (A.alloc (.cells #[.int .i64 1] 3)).heap[A.heap.size]? = some (.cells #[.int .i64 1] 3 (0, 0)) := World.alloc_heap_new A _
  have b2 := World.alloc_heap_new (A.alloc (.cells #[.int .i64 1] 3)) (.cells #[.bool false, .slice (some ⟨A.heap.size, 0, none⟩) 1 1] 41)
  rw [World.size_alloc] at b2
  have b3 : ((A.alloc (.cells #[.int .i64 1] 3)).alloc (.cells #[.bool false, .slice (some ⟨A.heap.size, 0, none⟩) 1 1] 41)).heap[A.heap.size]? = some (.cells #[.int .i64 1] 3 (0, 0)) := (Below.heap_alloc _ _ _ (by simp)).trans b1
  refine ⟨by simp, _, 1, rfl, Nat.le_refl _, by decide, fun _ => ⟨_, 0, rfl, by simp, fun j hj => ?_⟩⟩
  obtain rfl : j = 0 := by simp at hj; exact hj
  refine ⟨.slice (some ⟨A.heap.size, 0, none⟩) 1 1, by unfold World.cell?; dsimp only; simp only [List.length_cons, List.length_nil, Nat.zero_add, Nat.zero_mul, Nat.add_zero]; rw [b2]; rfl, by unfold World.cell?; dsimp only; simp only [Nat.zero_add, Nat.zero_mul]; rw [b2]; rfl, by simp, _, 1, rfl, Nat.le_refl _, by decide, by simp, fun _ => ⟨_, 0, rfl, by simp; omega, fun j hj => ?_⟩⟩
  obtain rfl : j = 0 := by simp at hj; exact hj
  simp [World.cell?, b3]

theorem walk (W : World) (hD : Env W) :
    Calls Tryd.prog 5 #[] W fun e w' => e = .returned (.bool true) ∧ Below W.heap.size W w' := by
  have HD : Hid (Env W) := hD
  clear hD
  go_enter Tryd.func5, Tryd.ntmps5
  go_wp2_with fail
  refine (stepsF9_any one0 W).mono ?_
  rintro e w1 ⟨rfl, rfl⟩
  go_wp2_with fail
  have bl : Below W.heap.size W (((W.alloc (.cells #[.string one0] 9)).alloc (.cells #[.int .i64 1] 3)).alloc (.cells #[.bool false, .slice (some ⟨W.heap.size + 1, 0, none⟩) 1 1] 41)) := Below.step (Below.step (below_box _ _) (below_box _ _)) (below_box _ _)
  have rz := one_read (W.alloc (.cells #[.string one0] 9))
  simp only [World.size_alloc] at rz
  have hc : (((W.alloc (.cells #[.string one0] 9)).alloc (.cells #[.int .i64 1] 3)).alloc (.cells #[.bool false, .slice (some ⟨W.heap.size + 1, 0, none⟩) 1 1] 41)).cell? ⟨W.heap.size, 0, none⟩ = some (.string one0) := by
    have b1 := (Below.heap_alloc ((W.alloc (.cells #[.string one0] 9)).alloc (.cells #[.int .i64 1] 3)) (.cells #[.bool false, .slice (some ⟨W.heap.size + 1, 0, none⟩) 1 1] 41) W.heap.size (by simp; omega)).trans ((Below.heap_alloc _ _ _ (by simp)).trans (World.alloc_heap_new W (.cells #[.string one0] 9)))
    unfold World.cell?
    dsimp only
    rw [b1]
    rfl
  refine (gives9_any one0 W.heap.size _ _ hc (by decide) (by rw [par_one]; exact rz) (HD.out.below bl)).mono ?_
  rintro e w2 ⟨rfl, bel2⟩
  have HB : Hid (Below W.heap.size W w2) := Below.trans bl (bel2.mono bl.size)
  clear bel2 hc rz bl
  go_wp2
  go_ret
  exact ⟨rfl, HB.out⟩
end Go.Proofs.YtaipajalkendaaaDoor.dratNumbers

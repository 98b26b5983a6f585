/-
  learn: awake: one clash of which the document names what it teaches.
  KEEP: len below nil form rd mono one more grown lt size cell some none of ofNat add out step row get at mk new made look put del kept drew alloc has same other map rde take lit lev lstB pre ws cells bnd on start app set box bel rz tidy ms reason c f max lv
-/
import Derived.Test.YtkchabdlpeifjaaLnW
import Derived.Test.YtkchabdlpeifjaaSames
set_option linter.unusedSimpArgs false
set_option linter.unusedVariables false
namespace Go.Proofs.Ytkchabdlpeifjaa
open Go Go.RowKit
def tA : List Ent := [(1, 1, []), (2, 1, [2, -1]), (3, 2, []), (4, 2, [4, -3, -2]), (5, 2, [5, -4])]
theorem tA_ask : askI tA [-5, -3] = 0 := by decide +kernel
theorem tA_lrn : lrnC tA [-5, -3] = [-3, -2] := by decide +kernel
theorem tA_back : lrnB tA [-5, -3] = 1 := by decide +kernel
/-- a list that has just been made -/
theorem own_made (w : World) (zs : List Int) : Own w.heap.size (w.alloc (.cells (zs.map (Value.int .i64)).toArray 3)) (.slice (some ⟨w.heap.size, 0, none⟩) zs.length zs.length) zs ∨ maxLen < zs.length := by
  by_cases h : zs.length ≤ maxLen
  · exact .inl ⟨by simp, .inr ⟨w.heap.size, zs.length, (zs.map (Value.int .i64)).toArray, rfl, Nat.le_refl _, World.alloc_heap_new w _, Nat.le_refl _, h, by simp, by rw [Nat.mul_one]; exact List.take_of_length_le (by simp)⟩⟩
  · exact .inr (by omega)
theorem own_made' (w : World) (zs : List Int) (h : zs.length ≤ 10) : Own w.heap.size (w.alloc (.cells (zs.map (Value.int .i64)).toArray 3)) (.slice (some ⟨w.heap.size, 0, none⟩) zs.length zs.length) zs := by
  rcases own_made w zs with q | q
  · exact q
  · unfold maxLen at q; omega
/-- the trail of awake, in memory -/
theorem awake_mem (w : World) : ∃ w4, (((w.alloc (.cells #[.int .i64 2, .int .i64 (-1)] 3)).alloc (.cells #[.int .i64 4, .int .i64 (-3), .int .i64 (-2)] 3)).alloc (.cells #[.int .i64 5, .int .i64 (-4)] 3)).alloc
    (.cells #[.int .i64 1, .int .i64 1, .slice none 0 0, .int .i64 2, .int .i64 1, .slice (some ⟨w.heap.size, 0, none⟩) 2 2, .int .i64 3, .int .i64 2, .slice none 0 0, .int .i64 4, .int .i64 2, .slice (some ⟨w.heap.size + 1, 0, none⟩) 3 3, .int .i64 5, .int .i64 2, .slice (some ⟨w.heap.size + 2, 0, none⟩) 2 2] 42) = w4 ∧
    RdE w4 (.slice (some ⟨w.heap.size + 3, 0, none⟩) 5 5) tA ∧ Below w.heap.size w w4 := by
  refine ⟨_, rfl, ?_⟩
  have o1 := own_made' w [2, -1] (by decide)
  have k1 := below_box w (.cells #[.int .i64 2, .int .i64 (-1)] 3)
  have s1 : (w.alloc (.cells #[.int .i64 2, .int .i64 (-1)] 3)).heap.size = w.heap.size + 1 := by simp
  have o1 : Own w.heap.size (w.alloc (.cells #[.int .i64 2, .int .i64 (-1)] 3)) (.slice (some ⟨w.heap.size, 0, none⟩) 2 2) [2, -1] := o1
  generalize w.alloc (.cells #[.int .i64 2, .int .i64 (-1)] 3) = w1 at *
  have o2 : Own w1.heap.size (w1.alloc (.cells #[.int .i64 4, .int .i64 (-3), .int .i64 (-2)] 3)) (.slice (some ⟨w1.heap.size, 0, none⟩) 3 3) [4, -3, -2] := own_made' w1 [4, -3, -2] (by decide)
  have k2 := below_box w1 (.cells #[.int .i64 4, .int .i64 (-3), .int .i64 (-2)] 3)
  have s2 : (w1.alloc (.cells #[.int .i64 4, .int .i64 (-3), .int .i64 (-2)] 3)).heap.size = w.heap.size + 2 := by simp [s1]
  rw [s1] at o2
  generalize w1.alloc (.cells #[.int .i64 4, .int .i64 (-3), .int .i64 (-2)] 3) = w2 at *
  have o3 : Own w2.heap.size (w2.alloc (.cells #[.int .i64 5, .int .i64 (-4)] 3)) (.slice (some ⟨w2.heap.size, 0, none⟩) 2 2) [5, -4] := own_made' w2 [5, -4] (by decide)
  have k3 := below_box w2 (.cells #[.int .i64 5, .int .i64 (-4)] 3)
  have s3 : (w2.alloc (.cells #[.int .i64 5, .int .i64 (-4)] 3)).heap.size = w.heap.size + 3 := by simp [s2]
  rw [s2] at o3
  generalize w2.alloc (.cells #[.int .i64 5, .int .i64 (-4)] 3) = w3 at *
  have k4 := below_box w3 (.cells #[.int .i64 1, .int .i64 1, .slice none 0 0, .int .i64 2, .int .i64 1, .slice (some ⟨w.heap.size, 0, none⟩) 2 2, .int .i64 3, .int .i64 2, .slice none 0 0, .int .i64 4, .int .i64 2, .slice (some ⟨w.heap.size + 1, 0, none⟩) 3 3, .int .i64 5, .int .i64 2, .slice (some ⟨w.heap.size + 2, 0, none⟩) 2 2] 42)
  have cel : ∀ j v, (#[.int .i64 1, .int .i64 1, .slice none 0 0, .int .i64 2, .int .i64 1, .slice (some ⟨w.heap.size, 0, none⟩) 2 2, .int .i64 3, .int .i64 2, .slice none 0 0, .int .i64 4, .int .i64 2, .slice (some ⟨w.heap.size + 1, 0, none⟩) 3 3, .int .i64 5, .int .i64 2, .slice (some ⟨w.heap.size + 2, 0, none⟩) 2 2] : Array Value)[j]? = some v → (w3.alloc (.cells #[.int .i64 1, .int .i64 1, .slice none 0 0, .int .i64 2, .int .i64 1, .slice (some ⟨w.heap.size, 0, none⟩) 2 2, .int .i64 3, .int .i64 2, .slice none 0 0, .int .i64 4, .int .i64 2, .slice (some ⟨w.heap.size + 1, 0, none⟩) 3 3, .int .i64 5, .int .i64 2, .slice (some ⟨w.heap.size + 2, 0, none⟩) 2 2] 42)).cell? ⟨w.heap.size + 3, j, none⟩ = some v := fun j v h => by
    rw [← s3, World.cell?_alloc_mark]; exact h
  have hlt : w.heap.size + 3 < (w3.alloc (.cells #[.int .i64 1, .int .i64 1, .slice none 0 0, .int .i64 2, .int .i64 1, .slice (some ⟨w.heap.size, 0, none⟩) 2 2, .int .i64 3, .int .i64 2, .slice none 0 0, .int .i64 4, .int .i64 2, .slice (some ⟨w.heap.size + 1, 0, none⟩) 3 3, .int .i64 5, .int .i64 2, .slice (some ⟨w.heap.size + 2, 0, none⟩) 2 2] 42)).heap.size := by simp [s3]
  generalize w3.alloc (.cells #[.int .i64 1, .int .i64 1, .slice none 0 0, .int .i64 2, .int .i64 1, .slice (some ⟨w.heap.size, 0, none⟩) 2 2, .int .i64 3, .int .i64 2, .slice none 0 0, .int .i64 4, .int .i64 2, .slice (some ⟨w.heap.size + 1, 0, none⟩) 3 3, .int .i64 5, .int .i64 2, .slice (some ⟨w.heap.size + 2, 0, none⟩) 2 2] 42) = w4 at *
  refine ⟨⟨by decide, some ⟨w.heap.size + 3, 0, none⟩, 5, rfl, by decide, by unfold maxLen; omega, fun _ => ⟨w.heap.size + 3, 0, rfl, hlt, fun j hj => ?_⟩⟩, Below.step k1 (Below.step k2 (Below.step k3 k4))⟩
  have hj5 : j < 5 := hj
  have r1 : Rd w4 (.slice (some ⟨w.heap.size, 0, none⟩) 2 2) [2, -1] := (o1.below (Below.step k2 (Below.step k3 k4))).rd (by decide)
  have r2 : Rd w4 (.slice (some ⟨w.heap.size + 1, 0, none⟩) 3 3) [4, -3, -2] := (o2.below (Below.step k3 k4)).rd (by decide)
  have r3 : Rd w4 (.slice (some ⟨w.heap.size + 2, 0, none⟩) 2 2) [5, -4] := (o3.below k4).rd (by decide)
  match j, hj5 with
  | 0, _ => exact ⟨_, cel 0 _ rfl, cel 1 _ rfl, cel 2 _ rfl, Rd.nil _⟩
  | 1, _ => exact ⟨_, cel 3 _ rfl, cel 4 _ rfl, cel 5 _ rfl, r1⟩
  | 2, _ => exact ⟨_, cel 6 _ rfl, cel 7 _ rfl, cel 8 _ rfl, Rd.nil _⟩
  | 3, _ => exact ⟨_, cel 9 _ rfl, cel 10 _ rfl, cel 11 _ rfl, r2⟩
  | 4, _ => exact ⟨_, cel 12 _ rfl, cel 13 _ rfl, cel 14 _ rfl, r3⟩
set_option maxRecDepth 100000 in
set_option maxHeartbeats 3200000 in
theorem awake15_any (w : World) : Calls Try.prog 9 #[] w fun e w' => e = .returned (.bool true) ∧ Below w.heap.size w w' := by
  obtain ⟨w4, hw4, hrd, hbl⟩ := awake_mem w
  obtain ⟨X, hX⟩ : ∃ X, w.heap.size = X := ⟨_, rfl⟩
  rw [hX] at hw4 hrd hbl ⊢
  have HW4 : Hid ((((w.alloc (.cells #[.int .i64 2, .int .i64 (-1)] 3)).alloc (.cells #[.int .i64 4, .int .i64 (-3), .int .i64 (-2)] 3)).alloc (.cells #[.int .i64 5, .int .i64 (-4)] 3)).alloc
    (.cells #[.int .i64 1, .int .i64 1, .slice none 0 0, .int .i64 2, .int .i64 1, .slice (some ⟨X, 0, none⟩) 2 2, .int .i64 3, .int .i64 2, .slice none 0 0, .int .i64 4, .int .i64 2, .slice (some ⟨X + 1, 0, none⟩) 3 3, .int .i64 5, .int .i64 2, .slice (some ⟨X + 2, 0, none⟩) 2 2] 42) = w4) := hw4
  have HB : Hid (Below X w w4) := hbl
  have HRd : Hid (RdE w4 (.slice (some ⟨X + 3, 0, none⟩) 5 5) tA) := hrd
  have HZ : Hid (Rd (w4.alloc (.cells #[.int .i64 (-5), .int .i64 (-3)] 3)) (.slice (some ⟨w4.heap.size, 0, none⟩) 2 2) [-5, -3]) := Own.rd (own_made' w4 [-5, -3] (by decide)) (by decide)
  have HLn : Hid (Calls Try.prog 13 #[.slice (some ⟨X + 3, 0, none⟩) 5 5, .slice (some ⟨w4.heap.size, 0, none⟩) 2 2] (w4.alloc (.cells #[.int .i64 (-5), .int .i64 (-3)] 3)) fun e w' => ∃ x, e = .returned (.tuple #[x, .int .i64 1, .int .i64 0]) ∧ Rd w' x [-3, -2] ∧ Below X w w') :=
    (learn_any _ _ tA [-5, -3] _ (HRd.out.below (below_box _ _)) HZ.out).mono fun e w' ⟨⟨x, h3, h4⟩, h5⟩ => by
      rw [tA_ask, if_pos rfl, tA_back] at h3
      rw [tA_ask, if_pos rfl, tA_lrn] at h4
      have hb := Below.step (below_box w4 (.cells #[.int .i64 (-5), .int .i64 (-3)] 3)) h5
      exact ⟨x, h3, h4.rd (by decide), HB.out.trans (hb.mono (by rw [← hX]; exact (show w.heap.size ≤ w4.heap.size from HB.out.size)))⟩
  have HSm : Hid (∀ W x, Rd W x [-3, -2] → Calls Try.prog 16 #[x, .slice (some ⟨W.heap.size, 0, none⟩) 2 2] (W.alloc (.cells #[.int .i64 (-3), .int .i64 (-2)] 3)) fun e w' => e = .returned (.bool true) ∧ Below W.heap.size W w') := fun W x h => by
    have q := sameInts_any x (.slice (some ⟨W.heap.size, 0, none⟩) 2 2) [-3, -2] [-3, -2] (W.alloc (.cells #[.int .i64 (-3), .int .i64 (-2)] 3)) (h.below (below_box _ _)) (Own.rd (own_made' W [-3, -2] (by decide)) (by decide))
    rw [show (([-3, -2] : List Int) == [-3, -2]) = true by decide] at q
    exact q.mono fun e w' ⟨h1, h2⟩ => ⟨h1, Below.step (below_box _ _) h2⟩
  clear hw4 hrd hbl
  go_enter Try.func9, Try.ntmps9
  go_upto_region 2 with fail
  simp only [Nat.add_assoc, Nat.reduceAdd]
  rw [HW4.out]
  clear HW4
  go_wp2_with (first
    | (go_at_call 13; refine HLn.out.mono ?_; rintro e w6 ⟨x6, rfl, r6, b6⟩; have H6 : Hid (Rd w6 x6 [-3, -2] ∧ Below X w w6) := ⟨r6, b6⟩; clear r6 b6)
    | (go_at_call 16; refine (HSm.out _ _ H6.out.1).mono ?_; rintro e w7 ⟨rfl, b7⟩; have H7 : Hid (Below X w w7) := H6.out.2.trans (b7.mono (by rw [← hX]; exact (show w.heap.size ≤ w6.heap.size from H6.out.2.size))); clear b7))
  go_ret
  exact ⟨rfl, H7.out⟩
end Go.Proofs.Ytkchabdlpeifjaa

/-
  unit, the statements' helpers: awake; what a copy reads.
  KEEP: set on app at below new trans refl start ap kept rd rds mono lt add none own nil put len pos setF setV putL putR other neV same_any
-/
import Derived.Test.YtmhelbgemehdmaaDoorUnCl
import Derived.Test.YtmhelbgemehdmaaDoorSmall
import Derived.Test.YtmhelbgemehdmaaDoorSames
set_option linter.unusedSimpArgs false
set_option linter.unusedVariables false
namespace Go.Proofs.YtmhelbgemehdmaaDoor
open Go Go.RowKit

def awkF : List (List Int) := [[1], [-1, 2]]
theorem awk_clo : Clo awkF [] [(1, 0), (2, 1)] (-1) := by
  refine ⟨⟨⟨by decide, by decide, fun j hj => by omega⟩, by decide, ⟨by decide, by decide, fun j hj => ?_⟩, by decide, trivial⟩, .inl ⟨rfl, fun j hj => ?_⟩⟩
  · obtain rfl : j = 0 := by simpa using hj
    decide
  · rcases (show j = 0 ∨ j = 1 by have : j < 2 := hj; omega) with rfl | rfl <;> decide
theorem awk_says {clash : Bool} {D : List Int} (h : Says6 awkF [] clash D) : clash = false ∧ D = [1, 2] := by
  have h2 := clo_says (v := 2) (css := awkF) (facts := []) (cs := [(1, 0), (2, 1)]) (by decide) (by decide) (by intro l hl; simp at hl) awk_clo
  have e : tid ([] ++ [((1 : Int), 0), (2, 1)].map (Prod.fst : Int × Nat → Int)) = [1, 2] := by decide
  rw [e] at h2
  exact Says6.unique (fun _ => Iff.rfl) Iff.rfl h h2
theorem awk_few : Few awkF := Few.of (by decide) (by decide)
theorem rd_nil (w : World) : Rd w (.slice none 0 0) [] := Rd.nil w
set_option maxRecDepth 100000 in
set_option maxHeartbeats 3200000 in
theorem awake6_any (w : World) (hD : Deb w) :
    Calls Tryd.prog 26 #[] w fun e w' => e = .returned (.bool true) ∧ Below w.heap.size w w' := by
  have HD : Hid (Deb w) := hD
  have hA := (ownOne w 1).rd (by simp)
  have hA2 := hA.below (below_box _ (.cells #[.int .i64 (-1), .int .i64 2] 3))
  have hB := (ownTwo (w.alloc (.cells #[.int .i64 1] 3)) (-1) 2).rd (by simp)
  have hC := rds_two hA2 hB 25
  rw [World.size_alloc, World.size_alloc] at hC
  have HC : Hid (Rds (((w.alloc (.cells #[.int .i64 1] 3)).alloc (.cells #[.int .i64 (-1), .int .i64 2] 3)).alloc (.cells #[.slice (some ⟨w.heap.size, 0, none⟩) 1 1, .slice (some ⟨w.heap.size + 1, 0, none⟩) 2 2] 25)) (.slice (some ⟨w.heap.size + 1 + 1, 0, none⟩) 2 2) awkF) := by
    have := hC
    rw [World.size_alloc] at this
    exact this
  have HB : Hid (Below w.heap.size w (((w.alloc (.cells #[.int .i64 1] 3)).alloc (.cells #[.int .i64 (-1), .int .i64 2] 3)).alloc (.cells #[.slice (some ⟨w.heap.size, 0, none⟩) 1 1, .slice (some ⟨w.heap.size + 1, 0, none⟩) 2 2] 25))) := Below.step (Below.step (below_box _ _) (below_box _ _)) (below_box _ _)
  clear hA hA2 hB hC hD
  go_enter Tryd.func26, Tryd.ntmps26
  go_wp2_with fail
  refine (uClose_any 2 _ _ awkF [] _ HC.out (rd_nil _) awk_few (HD.out.below HB.out)).mono ?_
  rintro e w1 ⟨u, clash, D, rfl, hcl⟩
  rw [show cloE 2 awkF [] = 0 by decide]
  obtain ⟨rfl, rfl⟩ := awk_says (hcl.yes (by decide))
  have HO : Hid (Own w.heap.size w1 u [1, 2] ∧ Below w.heap.size w w1) := ⟨hcl.own.mono HB.out.size, Below.step HB.out hcl.bel⟩
  obtain ⟨au, cu, eu⟩ := own_form hcl.own
  subst eu
  clear hcl
  go_wp2_with fail
  refine (sameInts_any _ _ [1, 2] [1, 2] _ ((HO.out.1.rd (by simp)).below (below_box _ _)) ((ownTwo w1 1 2).rd (by simp))).mono ?_
  rintro e w2 ⟨rfl, bel2⟩
  have HF : Hid (Below w.heap.size w w2) := Below.step (Below.step HO.out.2 (below_box _ _)) bel2
  rw [show (([1, 2] : List Int) == [1, 2]) = true by decide]
  clear bel2
  go_wp2
  go_ret
  exact ⟨rfl, HF.out⟩
end Go.Proofs.YtmhelbgemehdmaaDoor

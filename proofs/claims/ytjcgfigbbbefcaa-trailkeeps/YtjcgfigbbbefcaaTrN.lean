/-
  trail: New.
  KEEP: set on app at below new trans refl start ap kept rd rds mono
-/
import Derived.Test.YtjcgfigbbbefcaaTrD
import Derived.Deep.OwnRows
set_option linter.unusedSimpArgs false
set_option linter.unusedVariables false
namespace Go.Proofs.Ytjcgfigbbbefcaa
open Go Go.RowKit

theorem info8 : (Try.prog.info? 46).map (fun i => (i.zero, i.size, i.bytes)) = some (some (.int .i8 0), 1, 1) := by kernel_rfl
theorem infoFt : (Try.prog.info? 86).map (fun i => (i.zero, i.size, i.bytes)) = some (some (.agg #[.int .i64 0, .int .i64 0]), 2, 16) := by kernel_rfl
theorem made_fact (n : Nat) (hn : n ≤ 1048576) (w : World) :
    (Instr.makeSlice 70 (.int .i64 (n : Int)) (.int .i64 (n : Int))).run Try.prog w = .ok (.slice (some ⟨w.heap.size, 0, none⟩) n n) (w.alloc (.cells (madeCells #[.int .i64 0, .int .i64 0] (n * 2)) 86)) := by
  obtain ⟨i, hi, hz, hs, hb⟩ := info_parts infoFt
  have hr := run_make (P := Try.prog) w 70 86 i _ Try.underlying70 hi hz .i64 .i64 n n (by omega) (Int.le_refl _) (by rw [hb]; omega) (by omega)
  simp only [Int.toNat_natCast, hs] at hr
  exact hr
theorem new_row {W : World} {g e size n : Nat} {c : Array Value} (h : W.heap[g]? = some (.cells c e (0, 0))) (hc : c.size = n * size) (hn : n ≤ maxLen) : W.ownsRow 0 e size (.slice (some ⟨g, 0, none⟩) n n) n c.toList :=
  ⟨by simpa using hc, .inr ⟨g, n, c, rfl, Nat.zero_le _, h, Nat.le_refl _, hn, hc, by rw [← hc, ← Array.length_toList]; exact List.take_length⟩⟩
theorem made_zero (z : Value) (m : Nat) : (madeCells #[z] m).toList = List.replicate m z := by
  refine List.ext_getElem? fun i => ?_
  by_cases hi : i < m
  · simp [madeCells, hi, Nat.mod_one]
  · simp [madeCells, hi]
theorem made_zero2 (z : Value) (m : Nat) : (madeCells #[z, z] m).toList = List.replicate m z := by
  refine List.ext_getElem? fun i => ?_
  by_cases hi : i < m
  · have : i % 2 = 0 ∨ i % 2 = 1 := by omega
    rcases this with h | h <;> simp [madeCells, hi, h]
  · simp [madeCells, hi]
theorem Tr.made {W : World} {b v f l n : Nat} (hn : n ≤ 1048576) (hb : W.heap[b]? = some (.cells #[.slice (some ⟨v, 0, none⟩) n n, .slice (some ⟨f, 0, none⟩) n n, .slice none 0 0, .slice (some ⟨l, 0, none⟩) 1 1] 77 (0, 0)))
    (hv : W.heap[v]? = some (.cells (madeCells #[.int .i8 0] n) 46 (0, 0))) (hf : W.heap[f]? = some (.cells (madeCells #[.int .i64 0, .int .i64 0] (n * 2)) 86 (0, 0))) (hl : W.heap[l]? = some (.cells #[.int .i64 0, .int .i64 0] 74 (0, 0))) :
    Tr W b ⟨.slice (some ⟨v, 0, none⟩) n n, .slice (some ⟨f, 0, none⟩) n n, .slice none 0 0, .slice (some ⟨l, 0, none⟩) 1 1⟩ n [] := by
  have e1 : (vals n []).map (Value.int .i8) = List.replicate n (.int .i8 0) := by
    refine List.ext_getElem (by simp [vals]) fun i h1 h2 => ?_
    simp [vals, valV, fnd]
  have e2 : (facts n []).map (Value.int .i64) = List.replicate (n * 2) (.int .i64 0) := by
    refine List.ext_getElem (by simp [facts]) fun i h1 h2 => ?_
    simp [facts, levV, reaV, fnd]
  refine ⟨⟨hb, ?_, ?_, World.ownsRow_nil _ _ _ _, ?_⟩, okT.nil n, hn⟩
  · rw [e1, ← made_zero]; exact new_row hv (by simp [size_madeCells]) (by unfold maxLen; omega)
  · rw [e2, ← made_zero2]; exact new_row hf (by simp [size_madeCells]) (by unfold maxLen; omega)
  · exact new_row hl rfl (by unfold maxLen; omega)

theorem heap_al (w : World) (o : Obj) (i : Nat) : (w.alloc o).heap[i]? = if i = w.heap.size then some o else w.heap[i]? := by
  show (w.heap.push o)[i]? = _
  rw [Array.getElem?_push]
theorem heap_dr (w : World) (i : Nat) : w.drew.heap[i]? = w.heap[i]? := rfl
theorem trNew_any (z : Int) (w : World) (hz : 0 ≤ z ∧ z ≤ 1048576) :
    Calls Try.prog 9 #[.int .i64 z] w fun e w' => ∃ b s, e = .returned (.tuple #[.pointer (some ⟨b, 0, none⟩), .int .i64 0]) ∧ Tr w' b s z.toNat [] ∧ Below w.heap.size w w' ∧ ∀ k, s.own b k → w.heap.size ≤ k := by
  obtain ⟨n, rfl⟩ : ∃ n : Nat, z = n := ⟨z.toNat, by omega⟩
  have hn : n ≤ 1048576 := by omega
  have hmk := run_make_row' (P := Try.prog) 69 46 (.int .i8 0) 1 Try.underlying69 info8 rfl .i64 .i64 n (by omega) (by omega)
  have hmk2 := made_fact n hn
  have HFin : Hid (∀ (W : World) (b v f l : Nat), Below w.heap.size w W → w.heap.size ≤ b → w.heap.size ≤ v → w.heap.size ≤ f → w.heap.size ≤ l →
    W.heap[b]? = some (.cells #[.slice (some ⟨v, 0, none⟩) n n, .slice (some ⟨f, 0, none⟩) n n, .slice none 0 0, .slice (some ⟨l, 0, none⟩) 1 1] 77 (0, 0)) →
    W.heap[v]? = some (.cells (madeCells #[.int .i8 0] n) 46 (0, 0)) → W.heap[f]? = some (.cells (madeCells #[.int .i64 0, .int .i64 0] (n * 2)) 86 (0, 0)) → W.heap[l]? = some (.cells #[.int .i64 0, .int .i64 0] 74 (0, 0)) →
    ∃ b' s, Ending.returned (.tuple #[.pointer (some ⟨b, 0, none⟩), .int .i64 0]) = .returned (.tuple #[.pointer (some ⟨b', 0, none⟩), .int .i64 0]) ∧ Tr W b' s (n : Int).toNat [] ∧ Below w.heap.size w W ∧ ∀ k, s.own b' k → w.heap.size ≤ k) := by
    intro W b v f l hbel h1 h2 h3 h4 hb hv hf hl
    refine ⟨b, _, rfl, by simpa using Tr.made hn hb hv hf hl, hbel, ?_⟩
    rintro k (rfl | hk | hk | hk | hk)
    · exact h1
    all_goals (simp [Value.ownBlock] at hk)
    all_goals omega
  clear hz
  go_enter Try.func9, Try.ntmps9
  go_wp2_with fail
  go_region
  all_goals go_wp2
  all_goals go_ret2
  all_goals (first | (refine HFin.out _ _ (w.heap.size) (w.heap.size + 1) (w.heap.size + 1 + 1) (Below.step (Below.step (Below.step (below_box _ _) (below_box _ _)) (below_box _ _)) (below_box _ _)).drew (by omega) (by omega) (by omega) (by omega) ?_ ?_ ?_ ?_ <;> (rw [heap_dr]; simp only [heap_al, World.size_alloc]; repeat (first | rw [if_pos True.intro] | rw [if_pos rfl] | rw [if_neg (by omega)])); done) | (refine HFin.out _ _ (w.heap.size) (w.heap.size + 1 + 1) (w.heap.size + 1) (Below.step (Below.step (Below.step (below_box _ _) (below_box _ _)) (below_box _ _)) (below_box _ _)).drew (by omega) (by omega) (by omega) (by omega) ?_ ?_ ?_ ?_ <;> (rw [heap_dr]; simp only [heap_al, World.size_alloc]; repeat (first | rw [if_pos True.intro] | rw [if_pos rfl] | rw [if_neg (by omega)])); done) | (refine HFin.out _ _ (w.heap.size + 1) (w.heap.size) (w.heap.size + 1 + 1) (Below.step (Below.step (Below.step (below_box _ _) (below_box _ _)) (below_box _ _)) (below_box _ _)).drew (by omega) (by omega) (by omega) (by omega) ?_ ?_ ?_ ?_ <;> (rw [heap_dr]; simp only [heap_al, World.size_alloc]; repeat (first | rw [if_pos True.intro] | rw [if_pos rfl] | rw [if_neg (by omega)])); done) | (refine HFin.out _ _ (w.heap.size + 1) (w.heap.size + 1 + 1) (w.heap.size) (Below.step (Below.step (Below.step (below_box _ _) (below_box _ _)) (below_box _ _)) (below_box _ _)).drew (by omega) (by omega) (by omega) (by omega) ?_ ?_ ?_ ?_ <;> (rw [heap_dr]; simp only [heap_al, World.size_alloc]; repeat (first | rw [if_pos True.intro] | rw [if_pos rfl] | rw [if_neg (by omega)])); done) | (refine HFin.out _ _ (w.heap.size + 1 + 1) (w.heap.size) (w.heap.size + 1) (Below.step (Below.step (Below.step (below_box _ _) (below_box _ _)) (below_box _ _)) (below_box _ _)).drew (by omega) (by omega) (by omega) (by omega) ?_ ?_ ?_ ?_ <;> (rw [heap_dr]; simp only [heap_al, World.size_alloc]; repeat (first | rw [if_pos True.intro] | rw [if_pos rfl] | rw [if_neg (by omega)])); done) | (refine HFin.out _ _ (w.heap.size + 1 + 1) (w.heap.size + 1) (w.heap.size) (Below.step (Below.step (Below.step (below_box _ _) (below_box _ _)) (below_box _ _)) (below_box _ _)).drew (by omega) (by omega) (by omega) (by omega) ?_ ?_ ?_ ?_ <;> (rw [heap_dr]; simp only [heap_al, World.size_alloc]; repeat (first | rw [if_pos True.intro] | rw [if_pos rfl] | rw [if_neg (by omega)])); done))
theorem trNew_bad (z : Int) (w : World) (hz : ¬ (0 ≤ z ∧ z ≤ 1048576)) :
    Calls Try.prog 9 #[.int .i64 z] w fun e w' => e = .returned (.tuple #[.pointer none, .int .i64 2]) ∧ w' = w := by
  by_cases h : z < 0
  · go_enter Try.func9, Try.ntmps9
    go_wp2
    go_ret2
    exact ⟨rfl, rfl⟩
  · have h1 : 1048576 < z := by omega
    clear hz
    go_enter Try.func9, Try.ntmps9
    go_wp2
    go_ret2
    exact ⟨rfl, rfl⟩
end Go.Proofs.Ytjcgfigbbbefcaa

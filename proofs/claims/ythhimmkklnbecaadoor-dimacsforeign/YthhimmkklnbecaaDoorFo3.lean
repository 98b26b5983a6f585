/-
  foreign of the laws of layer 3, walked.
  KEEP: below
-/
import Derived.Test.YthhimmkklnbecaaDoorRdForeign
import Derived.Test.YthhimmkklnbecaaDoorGrow
import Derived.Handy
set_option linter.unusedSimpArgs false
set_option linter.unusedVariables false
namespace Go.Proofs.YthhimmkklnbecaaDoor
open Go Go.RowKit

def fV3 : Array Value := #[.string ⟨#[120]⟩, .string ⟨#[43, 49]⟩, .string ⟨#[45, 48]⟩, .string ⟨#[48, 49]⟩, .string ⟨#[49, 46]⟩, .string ⟨#[45, 45, 49]⟩, .string ⟨#[48, 120, 49]⟩, .string ⟨#[99]⟩, .string ⟨#[45]⟩, .string ⟨#[49, 45]⟩, .string ⟨#[49, 13]⟩, .string ⟨#[217, 161]⟩, .string ⟨#[48, 48]⟩, .string ⟨#[45, 48, 49]⟩, .string ⟨#[118]⟩, .string ⟨#[37]⟩]
theorem fV3_at : ∀ k, k < 16 → ∃ f ∈ fwords, fV3[k]? = some (.string ⟨f.toArray⟩) := fun k hk =>
  match k, hk with
  | 0, _ => ⟨[120], by simp [fwords], rfl⟩
  | 1, _ => ⟨[43, 49], by simp [fwords], rfl⟩
  | 2, _ => ⟨[45, 48], by simp [fwords], rfl⟩
  | 3, _ => ⟨[48, 49], by simp [fwords], rfl⟩
  | 4, _ => ⟨[49, 46], by simp [fwords], rfl⟩
  | 5, _ => ⟨[45, 45, 49], by simp [fwords], rfl⟩
  | 6, _ => ⟨[48, 120, 49], by simp [fwords], rfl⟩
  | 7, _ => ⟨[99], by simp [fwords], rfl⟩
  | 8, _ => ⟨[45], by simp [fwords], rfl⟩
  | 9, _ => ⟨[49, 45], by simp [fwords], rfl⟩
  | 10, _ => ⟨[49, 13], by simp [fwords], rfl⟩
  | 11, _ => ⟨[217, 161], by simp [fwords], rfl⟩
  | 12, _ => ⟨[48, 48], by simp [fwords], rfl⟩
  | 13, _ => ⟨[45, 48, 49], by simp [fwords], rfl⟩
  | 14, _ => ⟨[118], by simp [fwords], rfl⟩
  | 15, _ => ⟨[37], by simp [fwords], rfl⟩
  | k + 16, h => absurd h (by omega)
theorem fV3_cell (w : World) (t : TypeId) (k : Nat) (hk : k < 16) : ∃ f ∈ fwords, (w.alloc (.cells fV3 t)).cell? ⟨w.heap.size, k, none⟩ = some (.string ⟨f.toArray⟩) := by
  obtain ⟨f, hf, h⟩ := fV3_at k hk
  have b1 := World.alloc_heap_new w (.cells fV3 t)
  exact ⟨f, hf, by unfold World.cell?; dsimp only; rw [b1]; exact h⟩

set_option maxRecDepth 100000 in
theorem foreign3_any (n : Int) (h0 : -9223372036854775808 ≤ n) (h1 : n ≤ 9223372036854775807) (w : World) :
    Calls Tryd.prog 17 #[.int .i64 n] w fun e w' => ∃ f ∈ fwords, e = .returned (.string ⟨f.toArray⟩) ∧ Below w.heap.size w w' := by
  have t1 : n.tmod 16 < 16 := Int.tmod_lt_of_pos n (by decide)
  have t2 : -16 < n.tmod 16 := Int.lt_tmod_of_pos n (by decide)
  have hc := fV3_cell w 9
  have hb : Below w.heap.size w (w.alloc (.cells fV3 9)) := below_box w _
  unfold fV3 at hc hb
  by_cases hn : n.tmod 16 < 0
  · obtain ⟨k, hk, hk2⟩ : ∃ k : Nat, n.tmod 16 + 16 = k ∧ k < 16 := ⟨(n.tmod 16 + 16).toNat, by omega, by omega⟩
    obtain ⟨f, hf, hcf⟩ := hc k hk2
    clear hc
    go_enter Tryd.func17, Tryd.ntmps17
    go_wp2
    go_ret
    exact ⟨f, hf, rfl, hb⟩
  · obtain ⟨k, hk, hk2⟩ : ∃ k : Nat, n.tmod 16 = k ∧ k < 16 := ⟨(n.tmod 16).toNat, by omega, by omega⟩
    obtain ⟨f, hf, hcf⟩ := hc k hk2
    clear hc
    go_enter Tryd.func17, Tryd.ntmps17
    go_wp2
    go_ret
    exact ⟨f, hf, rfl, hb⟩
end Go.Proofs.YthhimmkklnbecaaDoor

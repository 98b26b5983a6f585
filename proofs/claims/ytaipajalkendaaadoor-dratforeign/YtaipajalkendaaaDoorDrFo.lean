/-
  foreign of the laws of layer 9: a word that cannot stand behind a literal.
  KEEP: below
-/
import Derived.Test.YtaipajalkendaaaDoorDrB
import Derived.Test.YtaipajalkendaaaDoorDrM
set_option linter.unusedSimpArgs false
set_option linter.unusedVariables false
namespace Go.Proofs.YtaipajalkendaaaDoor
open Go Go.RowKit

def fW : List (List UInt8) := [[120], [43, 49], [45, 48], [48, 49], [49, 46], [100], [49, 48, 52, 56, 53, 55, 55], [45, 49, 48, 52, 56, 53, 55, 55], [45], [57, 57, 57, 57, 57, 57, 57, 57, 57, 57, 57, 57, 57, 57, 57, 57, 57, 57, 57, 57], [49, 13], [48, 48], [68], [100, 100], [99]]
set_option maxRecDepth 20000 in
theorem fW_ok : ∀ f ∈ fW, f.all wdB = true ∧ f ≠ [] ∧ numD f = none ∧ f.length ≤ 20 := by decide
def fV : Array Value := #[.string ⟨#[120]⟩, .string ⟨#[43, 49]⟩, .string ⟨#[45, 48]⟩, .string ⟨#[48, 49]⟩, .string ⟨#[49, 46]⟩, .string ⟨#[100]⟩, .string ⟨#[49, 48, 52, 56, 53, 55, 55]⟩, .string ⟨#[45, 49, 48, 52, 56, 53, 55, 55]⟩, .string ⟨#[45]⟩, .string ⟨#[57, 57, 57, 57, 57, 57, 57, 57, 57, 57, 57, 57, 57, 57, 57, 57, 57, 57, 57, 57]⟩, .string ⟨#[49, 13]⟩, .string ⟨#[48, 48]⟩, .string ⟨#[68]⟩, .string ⟨#[100, 100]⟩, .string ⟨#[99]⟩]
theorem fV_at : ∀ k, k < 15 → ∃ f ∈ fW, fV[k]? = some (.string ⟨f.toArray⟩) := fun k hk =>
  match k, hk with
  | 0, _ => ⟨[120], by simp [fW], rfl⟩
  | 1, _ => ⟨[43, 49], by simp [fW], rfl⟩
  | 2, _ => ⟨[45, 48], by simp [fW], rfl⟩
  | 3, _ => ⟨[48, 49], by simp [fW], rfl⟩
  | 4, _ => ⟨[49, 46], by simp [fW], rfl⟩
  | 5, _ => ⟨[100], by simp [fW], rfl⟩
  | 6, _ => ⟨[49, 48, 52, 56, 53, 55, 55], by simp [fW], rfl⟩
  | 7, _ => ⟨[45, 49, 48, 52, 56, 53, 55, 55], by simp [fW], rfl⟩
  | 8, _ => ⟨[45], by simp [fW], rfl⟩
  | 9, _ => ⟨[57, 57, 57, 57, 57, 57, 57, 57, 57, 57, 57, 57, 57, 57, 57, 57, 57, 57, 57, 57], by simp [fW], rfl⟩
  | 10, _ => ⟨[49, 13], by simp [fW], rfl⟩
  | 11, _ => ⟨[48, 48], by simp [fW], rfl⟩
  | 12, _ => ⟨[68], by simp [fW], rfl⟩
  | 13, _ => ⟨[100, 100], by simp [fW], rfl⟩
  | 14, _ => ⟨[99], by simp [fW], rfl⟩
theorem fV_cell (w : World) (t : TypeId) (k : Nat) (hk : k < 15) : ∃ f ∈ fW, (w.alloc (.cells fV t)).cell? ⟨w.heap.size, k, none⟩ = some (.string ⟨f.toArray⟩) := by
  obtain ⟨f, hf, h⟩ := fV_at k hk
  have b1 := World.alloc_heap_new w (.cells fV t)
  exact ⟨f, hf, by unfold World.cell?; dsimp only; rw [b1]; exact h⟩

set_option maxRecDepth 100000 in
theorem foreign_any (n : Int) (h0 : -9223372036854775808 ≤ n) (h1 : n ≤ 9223372036854775807) (w : World) :
    Calls Tryd.prog 22 #[.int .i64 n] w fun e w' => ∃ f ∈ fW, e = .returned (.string ⟨f.toArray⟩) ∧ Below w.heap.size w w' := by
  have t1 : n.tmod 15 < 15 := Int.tmod_lt_of_pos n (by decide)
  have t2 : -15 < n.tmod 15 := Int.lt_tmod_of_pos n (by decide)
  have hc := fV_cell w 9
  have hb : Below w.heap.size w (w.alloc (.cells fV 9)) := below_box w _
  unfold fV at hc hb
  by_cases hn : n.tmod 15 < 0
  · obtain ⟨k, hk, hk2⟩ : ∃ k : Nat, n.tmod 15 + 15 = k ∧ k < 15 := ⟨(n.tmod 15 + 15).toNat, by omega, by omega⟩
    obtain ⟨f, hf, hcf⟩ := hc k hk2
    clear hc
    go_enter Tryd.func22, Tryd.ntmps22
    go_wp2
    go_ret
    exact ⟨f, hf, rfl, hb⟩
  · obtain ⟨k, hk, hk2⟩ : ∃ k : Nat, n.tmod 15 = k ∧ k < 15 := ⟨(n.tmod 15).toNat, by omega, by omega⟩
    obtain ⟨f, hf, hcf⟩ := hc k hk2
    clear hc
    go_enter Tryd.func22, Tryd.ntmps22
    go_wp2
    go_ret
    exact ⟨f, hf, rfl, hb⟩
end Go.Proofs.YtaipajalkendaaaDoor

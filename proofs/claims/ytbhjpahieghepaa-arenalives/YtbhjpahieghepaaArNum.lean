/-
  arena: an arena that is new; what is refused of it.
  KEEP: set on app at below new trans refl start ap kept rd rds mono
-/
import Derived.Test.YtbhjpahieghepaaGrow
import Derived.Handy
set_option linter.unusedSimpArgs false
set_option linter.unusedVariables false
namespace Go.Proofs.Ytbhjpahieghepaa
open Go Go.RowKit

/-- a place with a live clause -/
def hasW (ws : List Int) (r : Int) : Bool := decide (0 ≤ r) && decide (r < ws.length) && decide (1048577 ≤ ws.getD r.toNat 0)

theorem has_any (b : Nat) (v : Value) (n r : Int) (ws : List Int) (w : World) (h : Bx2 w b 75 v (.int .i64 n)) (hr : Rd w v ws) :
    Calls Try.prog 33 #[.pointer (some ⟨b, 0, none⟩), .int .i64 r] w fun e w' => e = .returned (.bool (hasW ws r)) ∧ w' = w := by
  have c0 := h.c0
  have hl := hr.len
  have HR : Hid (Rd w v ws) := hr
  by_cases h0 : 0 ≤ r
  · by_cases h1 : r < ws.length
    · obtain ⟨b2, off, c, rfl, hpos, hc, hm, hb, hcell⟩ := hr.cases.resolve_left (by rintro ⟨rfl, _⟩; simp at h1; omega)
      have hk := hcell r.toNat (by omega)
      obtain ⟨k, rfl⟩ : ∃ k : Nat, r = k := ⟨r.toNat, by omega⟩
      have HE : Hid (hasW ws k = decide (1048577 ≤ ws.getD k 0)) := by show _ = _; unfold hasW; simp; omega
      have hkl : k < ws.length := by omega
      clear h hr hcell HR
      simp only [Int.toNat_natCast] at hk
      generalize ws.getD k 0 = z at *
      go_enter Try.func33, Try.ntmps33
      go_wp2
      go_ret
      exact ⟨by rw [HE.out]; rfl, rfl⟩
    · have HE : Hid (hasW ws r = false) := by show _ = _; unfold hasW; simp [h1]
      obtain ⟨_, a, c, rfl, _⟩ := hr
      clear h HR
      go_enter Try.func33, Try.ntmps33
      go_wp2
      go_ret
      exact ⟨by rw [HE.out]; rfl, rfl⟩
  · have HE : Hid (hasW ws r = false) := by show _ = _; unfold hasW; simp [h0]
    clear h HR hr
    go_enter Try.func33, Try.ntmps33
    go_wp2
    go_ret
    exact ⟨by rw [HE.out]; rfl, rfl⟩

theorem arNew_any (w : World) :
    Calls Try.prog 10 #[] w fun e w' => e = .returned (.pointer (some ⟨w.heap.size, 0, none⟩)) ∧ w' = w.alloc (.cells #[.slice none 0 0, .int .i64 0] 75) := by
  go_enter Try.func10, Try.ntmps10
  go_wp2
  go_ret
  exact ⟨rfl, rfl⟩

theorem rd_one (w : World) (z : Int) : Rd (w.alloc (.cells #[.int .i64 z] 3)) (.slice (some ⟨w.heap.size, 0, none⟩) 1 1) [z] := by
  have hh := World.alloc_heap_new w (.cells #[.int .i64 z] 3)
  refine ⟨by simp, some ⟨w.heap.size, 0, none⟩, 1, rfl, by simp, by unfold maxLen; omega, by simp, fun _ => ⟨w.heap.size, 0, rfl, by rw [World.size_alloc]; omega, fun j hj => ?_⟩⟩
  have : j = 0 := by simpa using hj
  subst this
  show (match (w.alloc (.cells #[.int .i64 z] 3)).heap[w.heap.size]? with | some (Obj.cells c elem frozen) => c[0 + 0]? | x => none) = _
  rw [hh]; rfl

theorem put_bad (p : Value) (v : Value) (zs : List Int) (l : Bool) (w : World) (hr : Rd w v zs) (h : zs.all fmd = false) :
    Calls Try.prog 11 #[p, v, .bool l] w fun e w' => e = .returned (.tuple #[.int .i64 0, .int .i64 1]) ∧ w' = w := by
  have hl := hr.len
  go_enter Try.func11, Try.ntmps11
  go_wp2_with fail
  refine (sound_any v zs w hr).mono ?_
  rw [h]
  rintro e w1 ⟨rfl, rfl⟩
  go_wp2
  go_returns
  exact ⟨rfl, rfl⟩

theorem drop_bad (b : Nat) (v : Value) (n r : Int) (ws : List Int) (w : World) (h : Bx2 w b 75 v (.int .i64 n)) (hr : Rd w v ws) (hh : hasW ws r = false) :
    Calls Try.prog 18 #[.pointer (some ⟨b, 0, none⟩), .int .i64 r] w fun e w' => e = .returned (.int .i64 2) ∧ w' = w := by
  go_enter Try.func18, Try.ntmps18
  go_wp2_with fail
  refine (has_any b v n r ws w h hr).mono ?_
  rw [hh]
  rintro e w1 ⟨rfl, rfl⟩
  go_wp2
  go_ret
  exact ⟨rfl, rfl⟩

end Go.Proofs.Ytbhjpahieghepaa

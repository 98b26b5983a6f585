/-
  a map of texts to ints, of a call's own: what it says of each text (0: nothing).
  KEEP: len below nil form rd mono one more grown lt size cell some none of ofNat add out step row get at mk new made look put del kept drew alloc has same other map
-/
import Derived.Test.YtbeaoekbppdlmaaDoorNum
import Derived.Maps.OwnSet
set_option linter.unusedSimpArgs false
set_option linter.unusedVariables false
namespace Go.Proofs.YtbeaoekbppdlmaaDoor
open Go Go.RowKit
theorem lawS21 : Maps.Keyed Tryd.prog 9 := Maps.string_keyed Tryd.underlying9
theorem keyS21 (x : ByteArray) (h : x.size ≤ maxLen) : keyOf Tryd.prog 9 (.string x) = some (.string x.data.toList) := by
  unfold keyOf
  rw [Tryd.underlying9]
  simp [mapKey, Tryd.underlying9]
  exact h
/-- the map says T -/
def Mi (W : World) (g n : Nat) (T : List UInt8 → Int) : Prop :=
  ∃ D : DataW Unit, W.ownsMap Tryd.prog 9 (plainElem Tryd.prog 3) g n D ∧ ∀ x, D.atKey (.string x) (.lit (.int .i64 0)) = .lit (.int .i64 (T x))
def upI (T : List UInt8 → Int) (x : List UInt8) (z : Int) : List UInt8 → Int := fun y => if y = x then z else T y
section
variable {W W' : World} {g n : Nat} {T : List UInt8 → Int}
theorem Mi.made (w : World) : Mi (w.alloc (.map #[] 0)) w.heap.size 0 (fun _ => 0) := ⟨_, World.ownsMap_made w _ _ _, fun x => rfl⟩
theorem Mi.lt (h : Mi W g n T) : g < W.heap.size := by obtain ⟨D, h1, _⟩ := h; exact h1.lt
theorem Mi.kept (h : Mi W g n T) (hk : W'.heap[g]? = W.heap[g]?) : Mi W' g n T := by
  obtain ⟨D, ⟨es, clock, hb, r⟩, h2⟩ := h
  exact ⟨D, ⟨es, clock, hk.trans hb, r⟩, h2⟩
theorem Mi.blw (h : Mi W g n T) (hb : Below W.heap.size W W') : Mi W' g n T := h.kept (hb.block g h.lt)
theorem Mi.map (h : Mi W g n T) : ∃ es clock, W.heap[g]? = some (.map es clock) := by
  obtain ⟨D, ⟨es, clock, hb, r⟩, h2⟩ := h
  exact ⟨es, clock, hb⟩
set_option maxRecDepth 100000 in
theorem Mi.look (h : Mi W g n T) {x : ByteArray} (hx : x.size ≤ maxLen) : (Instr.lookup 59 (.map (some g)) (.string x) false).run Tryd.prog W = .ok (.int .i64 (T x.data.toList)) W := by
  obtain ⟨D, h1, h2⟩ := h
  have hz : (zeroValue 3).run Tryd.prog W = .ok (.int .i64 0) W := by kernel_rfl
  obtain ⟨c, hrun, hat, _⟩ := h1.lookup_int lawS21 Tryd.underlying59 Tryd.underlying3 hz (keyS21 x hx)
  have e := h2 x.data.toList
  rw [hat] at e
  injection e with e
  injection e with _ e
  rw [hrun, e]
set_option maxRecDepth 100000 in
theorem Mi.put (h : Mi W g n T) {x : ByteArray} (hx : x.size ≤ maxLen) (hn : n < maxLen) (z : Int) (hz : (Lit.int .i64 z).wf = true) : ∃ w', (Instr.mapUpdate 59 (.map (some g)) (.string x) (.int .i64 z)).run Tryd.prog W = .ok () w' ∧ Mi w' g (n + 1) (upI T x.data.toList z) ∧ W.grownBy w' (some g) := by
  obtain ⟨D, h1, h2⟩ := h
  have hm := h1.isMap
  obtain ⟨w', r1, r2, r3⟩ := h1.update lawS21 Tryd.underlying59 hn (keyS21 x hx) (plainElem_int Tryd.underlying3 hz)
  refine ⟨w', r1, ⟨_, r2, fun y => ?_⟩, r3⟩
  unfold upI
  by_cases e : y = x.data.toList
  · subst e
    rw [if_pos rfl]
    rw [Maps.atKey_put_same hm (show WideAt.IsKeyLit (.string x.data.toList) from trivial)]
  · rw [if_neg e]
    have ne : (Lit.string y) ≠ .string x.data.toList := fun q => e (by injection q)
    rw [Maps.atKey_put_other ne]; exact h2 y
end
end Go.Proofs.YtbeaoekbppdlmaaDoor

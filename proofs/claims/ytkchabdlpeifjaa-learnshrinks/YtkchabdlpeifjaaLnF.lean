/-
  learn: sets of ints (maps to nothing); Levels, on both sides.
  KEEP: len below nil form rd mono one more grown lt size cell some none of ofNat add out step row get at mk new made look put del kept drew alloc has same other map rde take lit lev lstB pre ws cells bnd on start app set box bel rz tidy
-/
import Derived.Test.YtkchabdlpeifjaaLnE
import Derived.Test.YtkchabdlpeifjaaLnRc
set_option linter.unusedSimpArgs false
set_option linter.unusedVariables false
namespace Go.Proofs.Ytkchabdlpeifjaa
open Go Go.RowKit
/-- the set holds what T says; of at most n numbers, s of them -/
def Ms (W : World) (g n s : Nat) (T : Int → Bool) : Prop :=
  ∃ D : DataW Unit, W.ownsMap Try.prog 3 unitElem g n D ∧ Maps.Tidy D ∧ Maps.size D = s ∧ ∀ x, Maps.has D (.int .i64 x) = T x
section
variable {W W' : World} {g n s : Nat} {T : Int → Bool}
theorem Ms.made (w : World) : Ms (w.alloc (.map #[] 0)) w.heap.size 0 0 (fun _ => false) := ⟨_, World.ownsMap_made w _ _ _, Maps.tidy_empty, rfl, fun x => rfl⟩
theorem Ms.lt (h : Ms W g n s T) : g < W.heap.size := by obtain ⟨D, h1, _⟩ := h; exact h1.lt
theorem Ms.kept (h : Ms W g n s T) (hk : W'.heap[g]? = W.heap[g]?) : Ms W' g n s T := by
  obtain ⟨D, ⟨es, clock, hb, r⟩, h2⟩ := h
  exact ⟨D, ⟨es, clock, hk.trans hb, r⟩, h2⟩
theorem Ms.below (h : Ms W g n s T) (hb : Below W.heap.size W W') : Ms W' g n s T := h.kept (hb.block g h.lt)
def inS (T : Int → Bool) (x : Int) : Int → Bool := fun y => y == x || T y
def outS (T : Int → Bool) (x : Int) : Int → Bool := fun y => y != x && T y
theorem zeroU (W : World) : (zeroValue 69).run Try.prog W = .ok (.agg #[]) W := by kernel_rfl
theorem Ms.look (h : Ms W g n s T) {t : TypeId} (ht : Try.prog.underlying t = some (.map 3 69)) {x : Int} (h1 : -9223372036854775808 ≤ x) (h2 : x ≤ 9223372036854775807) : (Instr.lookup t (.map (some g)) (.int .i64 x) true).run Try.prog W = .ok (.tuple #[.agg #[], .bool (T x)]) W := by
  obtain ⟨D, h1', _, _, h2'⟩ := h
  obtain ⟨v, ps, hrun, hv⟩ := h1'.look_ok lawI ht (zeroU W) unitElem_mk (keyI h1 h2)
  obtain ⟨rfl, _⟩ := unitElem_inv hv
  rw [hrun, h2' x]
theorem Ms.put (h : Ms W g n s T) {t : TypeId} (ht : Try.prog.underlying t = some (.map 3 69)) {x : Int} (h1 : -9223372036854775808 ≤ x) (h2 : x ≤ 9223372036854775807) (hn : n < maxLen) : ∃ w', (Instr.mapUpdate t (.map (some g)) (.int .i64 x) (.agg #[])).run Try.prog W = .ok () w' ∧ Ms w' g (n + 1) (if T x then s else s + 1) (inS T x) ∧ W.grownBy w' (some g) := by
  obtain ⟨D, h1', ht', hs', h2'⟩ := h
  have hm := h1'.isMap
  obtain ⟨w', r1, r2, r3⟩ := h1'.update lawI ht hn (keyI h1 h2) unitElem_mk
  refine ⟨w', r1, ⟨_, r2, ht'.put (show WideAt.IsKeyLit (.int .i64 x) from trivial) _, by rw [Maps.size_put ht', h2' x, hs'], fun y => ?_⟩, r3⟩
  unfold inS
  by_cases e : y = x
  · subst e
    rw [Maps.has_put_same hm (show WideAt.IsKeyLit (.int .i64 y) from trivial)]; simp
  · have ne : (Lit.int .i64 y) ≠ .int .i64 x := fun q => e (by injection q)
    rw [Maps.has_put_other ne, h2' y, beq_eq_false_iff_ne.2 e]; rfl
theorem Ms.del (h : Ms W g n s T) {t : TypeId} (ht : Try.prog.underlying t = some (.map 3 69)) {x : Int} (h1 : -9223372036854775808 ≤ x) (h2 : x ≤ 9223372036854775807) (ty : TypeId) : ∃ w', (Builtin.delete_ #[t, 3] ty #[.map (some g), .int .i64 x]).run Try.prog W = .ok (.tuple #[]) w' ∧ Ms w' g n (if T x then s - 1 else s) (outS T x) ∧ W.grownBy w' (some g) := by
  obtain ⟨D, h1', ht', hs', h2'⟩ := h
  obtain ⟨w', r1, r2, r3⟩ := h1'.drop lawI ht (keyI h1 h2) ty
  refine ⟨w', r1, ⟨_, r2, ht'.del _, ?_, fun y => ?_⟩, r3.grown⟩
  · have := Maps.size_del (k := .int .i64 x) ht'
    rw [h2' x, hs'] at this
    split at this <;> simp_all <;> omega
  unfold outS
  by_cases e : y = x
  · subst e
    rw [Maps.has_del_same]; simp
  · have ne : (Lit.int .i64 y) ≠ .int .i64 x := fun q => e (by injection q)
    rw [Maps.has_del_other ne, h2' y, show (y != x) = true by simpa using e]; rfl
theorem Ms.len (h : Ms W g n s T) {t : TypeId} (ht : Try.prog.underlying t = some (.map 3 69)) (ty : TypeId) : (Builtin.len_ #[t] ty #[.map (some g)]).run Try.prog W = .ok (.int .i64 (s : Int)) W := by
  obtain ⟨D, h1', ht', hs', h2'⟩ := h
  rw [h1'.len ht ty, hs']
end
end Go.Proofs.Ytkchabdlpeifjaa

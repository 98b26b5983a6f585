/-
  learn: maps of ints; a reading in memory; isFalse, place.
  KEEP: len below nil form rd mono one more grown lt size cell some none of ofNat add out step row get at mk new made look put del kept drew alloc has same other map rde
-/
import Derived.Test.YtgngdohhlhlcpaaLnM
import Derived.Maps.OwnSet
import Derived.Handy
import Derived.Deep.RegionWith
import Derived.Deep.QuietTactic
import Derived.BigQuiet
import Derived.Deep.RegionHeld
import Derived.Deep.CutRange
import Derived.Sort.AtCall
set_option linter.unusedSimpArgs false
set_option linter.unusedVariables false
namespace Go.Proofs.Ytgngdohhlhlcpaa
open Go Go.RowKit
theorem lawI : Maps.Keyed Try.prog 3 := Maps.int_keyed Try.underlying3
theorem wf64 {x : Int} (h1 : -9223372036854775808 ≤ x) (h2 : x ≤ 9223372036854775807) : (Lit.int .i64 x).wf = true := by
  simp [Lit.wf, IntKind.min, IntKind.max, IntKind.bits, IntKind.signed]; omega
theorem keyI {x : Int} (h1 : -9223372036854775808 ≤ x) (h2 : x ≤ 9223372036854775807) : keyOf Try.prog 3 (.int .i64 x) = some (.int .i64 x) := Maps.keyOf_int_mk Try.underlying3 (wf64 h1 h2)
/-- the map says T, of at most n numbers -/
def Mi (W : World) (g n : Nat) (T : Int → Option Nat) : Prop :=
  ∃ D : DataW Unit, W.ownsMap Try.prog 3 (plainElem Try.prog 3) g n D ∧ ∀ x, Maps.has D (.int .i64 x) = (T x).isSome ∧ ∀ p, T x = some p → ∀ z, D.atKey (.int .i64 x) z = .lit (.int .i64 (p : Int))
def upI (T : Int → Option Nat) (x : Int) (p : Nat) : Int → Option Nat := fun y => if y = x then some p else T y
section
variable {W W' : World} {g n : Nat} {T : Int → Option Nat}
theorem Mi.made (w : World) : Mi (w.alloc (.map #[] 0)) w.heap.size 0 (fun _ => none) := ⟨_, World.ownsMap_made w _ _ _, fun x => ⟨rfl, fun p h => by cases h⟩⟩
theorem Mi.lt (h : Mi W g n T) : g < W.heap.size := by obtain ⟨D, h1, _⟩ := h; exact h1.lt
theorem Mi.kept (h : Mi W g n T) (hk : W'.heap[g]? = W.heap[g]?) : Mi W' g n T := by
  obtain ⟨D, ⟨es, clock, hb, r⟩, h2⟩ := h
  exact ⟨D, ⟨es, clock, hk.trans hb, r⟩, h2⟩
theorem Mi.below (h : Mi W g n T) (hb : Below W.heap.size W W') : Mi W' g n T := h.kept (hb.block g h.lt)
theorem Mi.look (h : Mi W g n T) {x : Int} (h1 : -9223372036854775808 ≤ x) (h2 : x ≤ 9223372036854775807) : (Instr.lookup 49 (.map (some g)) (.int .i64 x) true).run Try.prog W = .ok (.tuple #[.int .i64 (((T x).getD 0 : Nat) : Int), .bool (T x).isSome]) W := by
  obtain ⟨D, h1', h2'⟩ := h
  have hz : (zeroValue 3).run Try.prog W = .ok (.int .i64 0) W := by kernel_rfl
  obtain ⟨v, ps, hrun, hv⟩ := h1'.look_ok lawI Try.underlying49 hz (plainElem_int Try.underlying3 (by decide)) (keyI h1 h2)
  obtain ⟨a, rfl, ha, _⟩ := plainElem_int_inv Try.underlying3 hv
  rw [hrun, (h2' x).1]
  cases e : T x with
  | none =>
    rw [Maps.atKey_of_not_has (by rw [(h2' x).1, e]; rfl)] at ha
    simp only [Prod.mk.injEq, DataW.lit.injEq, Lit.int.injEq] at ha
    rw [← ha.1.2]; rfl
  | some p =>
    rw [(h2' x).2 p e] at ha
    simp only [Prod.mk.injEq, DataW.lit.injEq, Lit.int.injEq] at ha
    rw [← ha.1.2]; rfl
theorem Mi.get (h : Mi W g n T) {x : Int} (h1 : -9223372036854775808 ≤ x) (h2 : x ≤ 9223372036854775807) : (Instr.lookup 49 (.map (some g)) (.int .i64 x) false).run Try.prog W = .ok (.int .i64 (((T x).getD 0 : Nat) : Int)) W := by
  obtain ⟨D, h1', h2'⟩ := h
  have hz : (zeroValue 3).run Try.prog W = .ok (.int .i64 0) W := by kernel_rfl
  obtain ⟨a, hrun, ha, _⟩ := h1'.lookup_int lawI Try.underlying49 Try.underlying3 hz (keyI h1 h2)
  rw [hrun]
  cases e : T x with
  | none =>
    rw [Maps.atKey_of_not_has (by rw [(h2' x).1, e]; rfl)] at ha
    simp only [DataW.lit.injEq, Lit.int.injEq] at ha
    rw [← ha.2]; rfl
  | some p =>
    rw [(h2' x).2 p e] at ha
    simp only [DataW.lit.injEq, Lit.int.injEq] at ha
    rw [← ha.2]; rfl
theorem Mi.put (h : Mi W g n T) {x : Int} (h1 : -9223372036854775808 ≤ x) (h2 : x ≤ 9223372036854775807) (hn : n < maxLen) (k : Nat) (hk : k ≤ 9223372036854775807) : ∃ w', (Instr.mapUpdate 49 (.map (some g)) (.int .i64 x) (.int .i64 (k : Int))).run Try.prog W = .ok () w' ∧ Mi w' g (n + 1) (upI T x k) ∧ W.grownBy w' (some g) := by
  obtain ⟨D, h1', h2'⟩ := h
  have hm := h1'.isMap
  obtain ⟨w', r1, r2, r3⟩ := h1'.update lawI Try.underlying49 hn (keyI h1 h2) (plainElem_int Try.underlying3 (wf64 (x := (k : Int)) (by omega) (by omega)))
  refine ⟨w', r1, ⟨_, r2, fun y => ?_⟩, r3⟩
  unfold upI
  by_cases e : y = x
  · subst e
    rw [if_pos rfl]
    refine ⟨Maps.has_put_same hm (show WideAt.IsKeyLit (.int .i64 y) from trivial) _, fun p hp z => ?_⟩
    rw [Maps.atKey_put_same hm (show WideAt.IsKeyLit (.int .i64 y) from trivial)]
    rw [← Option.some.inj hp]
  · rw [if_neg e]
    have ne : (Lit.int .i64 y) ≠ .int .i64 x := fun q => e (by injection q)
    exact ⟨by rw [Maps.has_put_other ne]; exact (h2' y).1, fun p hp z => by rw [Maps.atKey_put_other ne]; exact (h2' y).2 p hp z⟩
end
/-- a reading in memory: the trail t, and the places of the entries p -/
structure Rz (W : World) (a : Option Addr) (t : List Ent) (c g : Nat) (p : List Ent) : Prop where
  rde : RdE W (.slice a t.length c) t
  map : Mi W g p.length (vpl p)
  pre : ∃ k, k ≤ t.length ∧ p = t.take k
  ws : Ws p
theorem Rz.below {W W' : World} {a : Option Addr} {t p : List Ent} {c g : Nat} (h : Rz W a t c g p) (hb : Below W.heap.size W W') : Rz W' a t c g p := ⟨h.rde.below hb, h.map.below hb, h.pre, h.ws⟩
/-- a reading's value -/
abbrev rV (a : Option Addr) (n c g : Nat) : Value := .agg #[.slice a n c, .map (some g)]
theorem Rz.drewN {W : World} {a : Option Addr} {t p : List Ent} {c g : Nat} (h : Rz W a t c g p) (k : Nat) : Rz (W.drewN k) a t c g p := h.below (below_drewN W k)

set_option maxHeartbeats 1600000 in
theorem place_any (a : Option Addr) (t p : List Ent) (c g : Nat) (x : Int) (w : World) (h : Rz w a t c g p) :
    Calls Try.prog 29 #[rV a t.length c g, .int .i64 x] w fun e w' => e = .returned (.int .i64 (((vpl p (varOf x)).getD 0 : Nat) : Int)) ∧ Below w.heap.size w w' := by
  have hv := varOf_le x
  obtain ⟨v, hve⟩ : ∃ v, varOf x = v := ⟨_, rfl⟩
  have HV : Hid (∀ W : World, Calls Try.prog 32 #[.int .i64 x] W fun e w' => e = .returned (.int .i64 v) ∧ w' = W) := fun W => by rw [← hve]; exact var_any _ _
  rw [hve] at hv ⊢
  have hb := below_box w (.cells #[.slice a t.length c, .map (some g)] 51)
  have hlk : ∀ k, (Instr.lookup 49 (.map (some g)) (.int .i64 v) false).run Try.prog ((w.alloc (.cells #[.slice a t.length c, .map (some g)] 51)).drewN k) = .ok (.int .i64 (((vpl p v).getD 0 : Nat) : Int)) ((w.alloc (.cells #[.slice a t.length c, .map (some g)] 51)).drewN k) := fun k => ((h.below hb).drewN k).map.get (by omega) (by omega)
  have HB : Hid (∀ k, Below w.heap.size w ((w.alloc (.cells #[.slice a t.length c, .map (some g)] 51)).drewN k)) := fun k => Below.step hb (below_drewN _ k)
  generalize (vpl p v).getD 0 = pv at *
  clear hb h hve
  go_enter Try.func29, Try.ntmps29
  go_upto_region 1 with fail
  go_quiet ((go_at_call 32; exact Calls.quiet_of_same (HV.out _)))
  go_wp2_with fail
  go_ret
  exact ⟨rfl, HB.out _⟩
theorem Rz.at {W : World} {a : Option Addr} {t p : List Ent} {c g : Nat} (h : Rz W a t c g p) {v : Int} {i : Nat} (hi : vpl p v = some i) : i < t.length ∧ p.getD i e0 = t.getD i e0 := by
  obtain ⟨k, hk, rfl⟩ := h.pre
  have := (vpl_some hi).1
  rw [List.length_take] at this
  exact ⟨by omega, take_at (by omega) t⟩
/-- the cells of an entry -/
theorem Rz.cells {W : World} {a : Option Addr} {t p : List Ent} {c g : Nat} (h : Rz W a t c g p) {i : Nat} (hi : i < t.length) : ∃ b off u, a = some ⟨b, off, none⟩ ∧ b < W.heap.size ∧ W.cell? ⟨b, off + i * 3, none⟩ = some (.int .i64 (t.getD i e0).1) ∧ W.cell? ⟨b, off + i * 3 + 1, none⟩ = some (.int .i64 (t.getD i e0).2.1) ∧ W.cell? ⟨b, off + i * 3 + 2, none⟩ = some u ∧ Rd W u (t.getD i e0).2.2 := by
  obtain ⟨a', c', e', _, _, hc⟩ := h.rde.form
  injection e' with q1 q2 q3
  subst q1 q3
  exact hc i hi
theorem Rz.bnd {W : World} {a : Option Addr} {t p : List Ent} {c g : Nat} (h : Rz W a t c g p) : t.length * 40 ≤ 140737488351232 ∧ t.length ≤ c ∧ c ≤ maxLen := by
  obtain ⟨a', c', e', h1, h2, hc⟩ := h.rde.form
  injection e' with q1 q2 q3
  subst q1 q3
  exact ⟨h.rde.len, h1, h2⟩

set_option maxHeartbeats 1600000 in
theorem isFalse_any (a : Option Addr) (t p : List Ent) (c g : Nat) (x : Int) (w : World) (h : Rz w a t c g p) :
    Calls Try.prog 46 #[rV a t.length c g, .int .i64 x] w fun e w' => e = .returned (.bool (isF p x)) ∧ Below w.heap.size w w' := by
  have hv := varOf_le x
  obtain ⟨hb1, hb2, hb3⟩ := h.bnd
  obtain ⟨v, hve⟩ : ∃ v, varOf x = v := ⟨_, rfl⟩
  have HV : Hid (∀ W : World, Calls Try.prog 32 #[.int .i64 x] W fun e w' => e = .returned (.int .i64 v) ∧ w' = W) := fun W => by rw [← hve]; exact var_any _ _
  have hb := below_box w (.cells #[.slice a t.length c, .map (some g)] 51)
  have hlk : ∀ k, (Instr.lookup 49 (.map (some g)) (.int .i64 v) true).run Try.prog ((w.alloc (.cells #[.slice a t.length c, .map (some g)] 51)).drewN k) = .ok (.tuple #[.int .i64 (((vpl p v).getD 0 : Nat) : Int), .bool (vpl p v).isSome]) ((w.alloc (.cells #[.slice a t.length c, .map (some g)] 51)).drewN k) := fun k => ((h.below hb).drewN k).map.look (by omega) (by omega)
  have HB : Hid (∀ k, Below w.heap.size w ((w.alloc (.cells #[.slice a t.length c, .map (some g)] 51)).drewN k)) := fun k => Below.step hb (below_drewN _ k)
  cases e : vpl p v with
  | none =>
    have HE : Hid (isF p x = false) := by show isF p x = false; unfold isF; rw [hve, e]
    rw [e] at hlk
    clear hb h hve e
    dsimp only [Option.getD, Option.isSome] at hlk
    go_enter Try.func46, Try.ntmps46
    go_upto_region 1 with fail
    go_quiet ((go_at_call 32; exact Calls.quiet_of_same (HV.out _)))
    go_wp2_with fail
    go_ret
    exact ⟨ret_bool HE.out.symm, HB.out _⟩
  | some i =>
    obtain ⟨hi, hpt⟩ := h.at e
    obtain ⟨b, off, u, rfl, hbl, c0, c1, c2, _⟩ := h.cells hi
    have c0' : (w.alloc (.cells #[.slice (some ⟨b, off, none⟩) t.length c, .map (some g)] 51)).cell? ⟨b, off + i * 3, none⟩ = some (.int .i64 (t.getD i e0).1) := (hb.cell (p := ⟨b, off + i * 3, none⟩) hbl).trans c0
    have hfx : fmd x = true := by
      obtain ⟨q1, q2, _⟩ := vpl_some e
      have := varOf_pos (h.ws.lit q1)
      cases ef : fmd x with
      | true => rfl
      | false => rw [varOf_no ef] at hve; omega
    have hx := fmd_range hfx
    have HE : Hid (isF p x = ((t.getD i e0).1 == -x)) := by show isF p x = _; unfold isF; rw [hve, e]; show ((p.getD i e0).1 == -x) = _; rw [hpt]
    have hwr : IntKind.i64.wrap (-x) = -x := by rw [IntKind.wrap_i64]; omega
    rw [e] at hlk
    generalize (t.getD i e0).1 = lt at *
    clear hb h hve e c0 c1 c2 hpt hfx
    dsimp only [Option.getD, Option.isSome] at hlk
    go_enter Try.func46, Try.ntmps46
    go_upto_region 1 with fail
    go_quiet ((go_at_call 32; exact Calls.quiet_of_same (HV.out _)))
    go_wp2_with fail
    go_ret
    exact ⟨ret_bool (by rw [HE.out]), HB.out _⟩

set_option maxHeartbeats 1600000 in
theorem level_any (a : Option Addr) (t p : List Ent) (c g : Nat) (x : Int) (w : World) (h : Rz w a t c g p) (hx : (vpl p (varOf x)).isSome = true) :
    Calls Try.prog 47 #[rV a t.length c g, .int .i64 x] w fun e w' => e = .returned (.int .i64 (lvl p x)) ∧ Below w.heap.size w w' := by
  obtain ⟨hb1, hb2, hb3⟩ := h.bnd
  obtain ⟨i, e⟩ := Option.isSome_iff_exists.1 hx
  obtain ⟨hi, hpt⟩ := h.at e
  obtain ⟨b, off, u, rfl, hbl, c0, c1, c2, _⟩ := h.cells hi
  have hb := below_box w (.cells #[.slice (some ⟨b, off, none⟩) t.length c, .map (some g)] 51)
  have hl : lvl p x = (t.getD i e0).2.1 := by unfold lvl; rw [e]; show (p.getD i e0).2.1 = _; rw [hpt]
  rw [hl]
  obtain ⟨X, hX⟩ : ∃ X, w.heap.size = X := ⟨_, rfl⟩
  rw [hX]
  have HP : Hid (∀ W, Below X w W → Calls Try.prog 29 #[rV (some ⟨b, off, none⟩) t.length c g, .int .i64 x] W fun e w' => e = .returned (.int .i64 (i : Int)) ∧ Below W.heap.size W w') := fun W hW => by
    have := place_any (some ⟨b, off, none⟩) t p c g x W (h.below (by rw [hX]; exact hW))
    rw [e] at this
    exact this
  have HC : Hid (∀ W, Below (w.alloc (.cells #[.slice (some ⟨b, off, none⟩) t.length c, .map (some g)] 51)).heap.size (w.alloc (.cells #[.slice (some ⟨b, off, none⟩) t.length c, .map (some g)] 51)) W → Below X w W ∧ W.cell? ⟨b, off + i * 3 + 1, none⟩ = some (.int .i64 (t.getD i e0).2.1) ∧ W.cell? ⟨X, 0, none⟩ = some (.slice (some ⟨b, off, none⟩) t.length c) ∧ W.cell? ⟨X, 1, none⟩ = some (.map (some g))) := fun W hW => by
    have h1 : Below w.heap.size w W := Below.step hb hW
    refine ⟨by rw [← hX]; exact h1, (h1.cell (p := ⟨b, off + i * 3 + 1, none⟩) hbl).trans c1, ?_, ?_⟩
    · rw [hW.cell (p := ⟨X, 0, none⟩) (by show X < _; simp; omega), ← hX, World.cell?_alloc_mark]; rfl
    · rw [hW.cell (p := ⟨X, 1, none⟩) (by show X < _; simp; omega), ← hX, World.cell?_alloc_mark]; rfl
  generalize (t.getD i e0).2.1 = lv at *
  clear h hpt e c0 c1 c2 hl hb hx
  go_enter Try.func47, Try.ntmps47
  go_upto_region 1 with fail
  generalize w.alloc (.cells #[.slice (some ⟨b, off, none⟩) t.length c, .map (some g)] 51) = w1 at *
  go_region_held (fun W' => Below w1.heap.size w1 W' ∧ W'.cell? ⟨b, off + i * 3 + 1, none⟩ = some (.int .i64 lv) ∧ W'.cell? ⟨X, 0, none⟩ = some (.slice (some ⟨b, off, none⟩) t.length c) ∧ W'.cell? ⟨X, 1, none⟩ = some (.map (some g))) (first | exact ⟨(Below.refl _ _).drew, (HC.out _ (Below.refl _ _).drew).2⟩ | exact ⟨bE, (HC.out _ bE).2⟩) (first | (go_at_call 29; refine (HP.out _ (HC.out _ (Below.refl _ _).drew).1).mono ?_; rintro e w2 ⟨rfl, bE0⟩; have bE : Below w1.heap.size w1 w2 := Below.step (Below.refl _ _).drew bE0; clear bE0))
  go_wp2_with fail
  go_ret
  exact ⟨rfl, (HC.out _ bE).1⟩
end Go.Proofs.Ytgngdohhlhlcpaa

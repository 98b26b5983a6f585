/-
  joined: PkM PkD PkS PkQ
-/
import Derived.Test.YtilcokpaeapmeaaDoorKPkR
import Derived.Test.YtilcokpaeapmeaaDoorJText
import Derived.Test.YtilcokpaeapmeaaDoorJAppK
import Derived.Test.YtilcokpaeapmeaaDoorKApp2
import Derived.Test.YtilcokpaeapmeaaDoorKCopy
import Derived.Deep.RegionLaw
import Derived.Deep.RegionHeld
import Derived.Deep.RegionWith
import Derived.Deep.CutRange
import Derived.Deep.QuietTactic
import Derived.BigQuiet
import Derived.Sort.AtCall
import Derived.Laws.ResultCell
import Derived.Test.YtilcokpaeapmeaaDoorKDrC
set_option linter.unusedSimpArgs false
set_option linter.unusedVariables false
namespace Go.Proofs.YtilcokpaeapmeaaDoor
open Go Go.RowKit

/-- a step that leaves all but a set of blocks; the set behind it -/
structure Mk (A : World) (Q : Nat → Prop) (B : World) (Q' : Nat → Prop) : Prop where
  os : B.os = A.os
  tape : B.tape = A.tape
  output : B.output = A.output
  size : A.heap.size ≤ B.heap.size
  block : ∀ k, k < A.heap.size → ¬ Q k → B.heap[k]? = A.heap[k]?
  new : ∀ k, Q' k → Q k ∨ A.heap.size ≤ k
theorem Mk.refl (A : World) (Q : Nat → Prop) : Mk A Q A Q := ⟨rfl, rfl, rfl, Nat.le_refl _, fun _ _ _ => rfl, fun _ h => .inl h⟩
theorem Mk.trans {A B C : World} {P Q R : Nat → Prop} (h : Mk A P B Q) (k : Mk B Q C R) : Mk A P C R :=
  ⟨k.os.trans h.os, k.tape.trans h.tape, k.output.trans h.output, Nat.le_trans h.size k.size, fun i hi hp => (k.block i (Nat.lt_of_lt_of_le hi h.size) (fun hq => by
    rcases h.new i hq with h1 | h1
    · exact hp h1
    · omega)).trans (h.block i hi hp), fun i hi => by
    rcases k.new i hi with h1 | h1
    · exact h.new i h1
    · exact .inr (Nat.le_trans h.size h1)⟩
theorem Mk.below {A B : World} (h : Below A.heap.size A B) (Q : Nat → Prop) : Mk A Q B Q := ⟨h.os, h.tape, h.output, h.size, fun k hk _ => h.block k hk, fun _ h => .inl h⟩
theorem Mk.cell {A B : World} {Q Q' : Nat → Prop} (h : Mk A Q B Q') {p : Addr} (h1 : p.block < A.heap.size) (h2 : ¬ Q p.block) : B.cell? p = A.cell? p := World.cell?_of_block (h.block _ h1 h2)
theorem Mk.low {A B : World} {Q Q' : Nat → Prop} {N : Nat} {w : World} (h : Mk A Q B Q') (hb : Below N w A) (hN : N ≤ A.heap.size) (hQ : ∀ k, Q k → N ≤ k) : Below N w B :=
  ⟨h.os.trans hb.os, h.tape.trans hb.tape, h.output.trans hb.output, Nat.le_trans hb.size h.size, fun k hk => (h.block k (Nat.lt_of_lt_of_le hk hN) (fun hq => by have := hQ k hq; omega)).trans (hb.block k hk)⟩

/-- a box of three cells -/
def Bx3 (W : World) (D : Nat) (x0 x1 x2 : Value) : Prop := W.heap[D]? = some (.cells #[x0, x1, x2] 75 (0, 0))
theorem Bx3.lt {W : World} {D : Nat} {x0 x1 x2 : Value} (h : Bx3 W D x0 x1 x2) : D < W.heap.size := (Array.getElem?_eq_some_iff.1 h).1
theorem Bx3.c {W : World} {D : Nat} {x0 x1 x2 : Value} (h : Bx3 W D x0 x1 x2) : W.cell? ⟨D, 0, none⟩ = some x0 ∧ W.cell? ⟨D, 1, none⟩ = some x1 ∧ W.cell? ⟨D, 2, none⟩ = some x2 := by
  simp [World.cell?, show W.heap[D]? = _ from h]
theorem Bx3.f {W : World} {D : Nat} {x0 x1 x2 : Value} (h : Bx3 W D x0 x1 x2) : W.frozen? ⟨D, 1, none⟩ = false ∧ W.frozen? ⟨D, 2, none⟩ = false := by
  simp [World.frozen?, show W.heap[D]? = _ from h]
theorem Bx3.new (W : World) (x0 x1 x2 : Value) : Bx3 (W.alloc (.cells #[x0, x1, x2] 75)) W.heap.size x0 x1 x2 := World.alloc_heap_new W _
theorem Bx3.kept {W W' : World} {D : Nat} {x0 x1 x2 : Value} (h : Bx3 W D x0 x1 x2) (hk : W'.heap[D]? = W.heap[D]?) : Bx3 W' D x0 x1 x2 := hk.trans h
theorem Bx3.below {W W' : World} {D : Nat} {x0 x1 x2 : Value} (h : Bx3 W D x0 x1 x2) (hb : Below W.heap.size W W') : Bx3 W' D x0 x1 x2 := (hb.block D h.lt).trans h
theorem Bx3.set1 {W : World} {D : Nat} {x0 x1 x2 : Value} (h : Bx3 W D x0 x1 x2) (y : Value) : Bx3 (W.setCell ⟨D, 1, none⟩ y) D x0 y x2 := by
  obtain ⟨hlt, hk⟩ := Array.getElem?_eq_some_iff.1 h
  show (W.heap.modify D _)[D]? = _
  rw [Array.getElem?_eq_getElem (by rw [Array.size_modify]; exact hlt), Array.getElem_modify_self, hk]; rfl
theorem Bx3.set2 {W : World} {D : Nat} {x0 x1 x2 : Value} (h : Bx3 W D x0 x1 x2) (y : Value) : Bx3 (W.setCell ⟨D, 2, none⟩ y) D x0 x1 y := by
  obtain ⟨hlt, hk⟩ := Array.getElem?_eq_some_iff.1 h
  show (W.heap.modify D _)[D]? = _
  rw [Array.getElem?_eq_getElem (by rw [Array.size_modify]; exact hlt), Array.getElem_modify_self, hk]; rfl
theorem Bx3.not_row {W : World} {D : Nat} {x0 x1 x2 : Value} (h : Bx3 W D x0 x1 x2) {base : Nat} {v : Value} {zs : List Int} (hr : Own base W v zs) : some D ≠ v.ownBlock := by
  rcases hr.2 with ⟨rfl, _⟩ | ⟨g, cap, cur, rfl, _, hgb, _⟩
  · simp [Value.ownBlock]
  · intro e'
    have e2 : D = g := by simpa [Value.ownBlock] using e'
    subst e2
    rw [show W.heap[D]? = _ from h] at hgb
    cases hgb
theorem own_keepB {B : Nat} {W W' : World} {v : Value} {zs : List Int} (h : Own B W v zs) (hk : ∀ k, some k = v.ownBlock → W'.heap[k]? = W.heap[k]?) : Own B W' v zs := by
  refine ⟨h.1, ?_⟩
  rcases h.2 with hn | ⟨g, cap, cur, hv, hg, hh, r⟩
  · exact .inl hn
  · exact .inr ⟨g, cap, cur, hv, hg, (hk g (by rw [hv]; rfl)).trans hh, r⟩
/-- the reader: its box, its literals so far in a row of its own -/
structure Rk (B D : Nat) (bv : Value) (W : World) (p : Nat) (cv : Value) (cl : List Int) : Prop where
  box : Bx3 W D bv (.int .i64 p) cv
  own : Own B W cv cl
theorem Rk.below {B D : Nat} {bv : Value} {W W' : World} {p : Nat} {cv : Value} {cl : List Int} (h : Rk B D bv W p cv cl) (hb : Below W.heap.size W W') : Rk B D bv W' p cv cl := ⟨h.box.below hb, h.own.below hb⟩
/-- the reader's own blocks -/
def rkQ (D : Nat) (cv : Value) : Nat → Prop := fun k => k = D ∨ some k = cv.ownBlock
theorem own_ge {B : Nat} {W : World} {v : Value} {zs : List Int} (h : Own B W v zs) : ∀ k, some k = v.ownBlock → B ≤ k := fun k hk => (World.ownsRow.lt h k hk.symm).1
/-- the place is set -/
theorem Rk.at {B D : Nat} {bv : Value} {W : World} {p : Nat} {cv : Value} {cl : List Int} (h : Rk B D bv W p cv cl) (q : Nat) : Rk B D bv (W.setCell ⟨D, 1, none⟩ (.int .i64 q)) q cv cl :=
  ⟨h.box.set1 _, own_keepB h.own fun k hk => Below.heap_setCell _ ⟨D, 1, none⟩ _ k (fun e => h.box.not_row h.own (by have e' : k = D := e; rw [← e']; exact hk))⟩
theorem mk_set {W : World} {D o : Nat} {cv : Value} (v : Value) : Mk W (rkQ D cv) (W.setCell ⟨D, o, none⟩ v) (rkQ D cv) :=
  ⟨rfl, rfl, rfl, by rw [World.size_setCell]; exact Nat.le_refl _, fun k _ hk => Below.heap_setCell _ ⟨D, o, none⟩ _ k (fun e => hk (.inl e)), fun _ h => .inl h⟩
/-- the literals are begun anew -/
theorem own_cutB {B : Nat} {W : World} {v : Value} {zs : List Int} (h : Own B W v zs) : ∃ u, (∀ W', (Instr.slice 58 v none (some (.int .i64 0)) none).run Tryd.prog W' = .ok u W') ∧ Own B W u [] ∧ u.ownBlock = v.ownBlock := by
  have hs : ∀ W', (sizeOf (Tryd.prog.elem 58)).run Tryd.prog W' = .ok 1 W' := fun W' => by
    simp [Program.elem, Tryd.underlying58]
  rcases h.2 with ⟨rfl, hn⟩ | ⟨g, cap, cur, rfl, hg, hh, hn, hm, hsz, ht⟩
  · refine ⟨.slice none 0 0, fun W' => ?_, World.ownsRow_nil _ _ _ _, rfl⟩
    rw [run_slice_h (P := Tryd.prog) W' 58 none 0 0 (by simp [Program.elem, Tryd.underlying58]) .i64 0 (by omega) (by omega), hs]
    simp [Result.andThen, sliced]
  · refine ⟨.slice (some ⟨g, 0, none⟩) 0 cap, fun W' => ?_, ⟨rfl, .inr ⟨g, cap, cur, rfl, hg, hh, Nat.zero_le _, hm, hsz, by simp⟩⟩, rfl⟩
    rw [run_slice_h (P := Tryd.prog) W' 58 (some ⟨g, 0, none⟩) zs.length cap (by simp [Program.elem, Tryd.underlying58]) .i64 0 (by omega) (by omega), hs]
    simp [Result.andThen, sliced, Addr.add]
theorem Rk.cut {B D : Nat} {bv : Value} {W : World} {p : Nat} {cv u : Value} {cl : List Int} (h : Rk B D bv W p cv cl) (hu : Own B W u []) (he : u.ownBlock = cv.ownBlock) : Rk B D bv (W.setCell ⟨D, 2, none⟩ u) p u [] ∧ Mk W (rkQ D cv) (W.setCell ⟨D, 2, none⟩ u) (rkQ D u) := by
  refine ⟨⟨h.box.set2 u, own_keepB hu fun k hk => Below.heap_setCell _ ⟨D, 2, none⟩ _ k (fun e => h.box.not_row h.own (by have e' : k = D := e; rw [← e', ← he]; exact hk))⟩, ?_⟩
  have := mk_set (W := W) (D := D) (o := 2) (cv := cv) u
  exact ⟨this.os, this.tape, this.output, this.size, this.block, fun k hk => .inl (by unfold rkQ at hk ⊢; rwa [he] at hk)⟩
/-- one literal more: behind the append, behind the store -/
theorem Rk.app {B D : Nat} {bv : Value} {W W7 : World} {p : Nat} {cv v7 : Value} {cl : List Int} {z : Int} {o : Obj} (h : Rk B D bv W p cv cl) (own7 : W7.ownsRow B 3 1 v7 (cl.length + 1) (cl.map (Value.int .i64) ++ [.int .i64 z])) (ap7 : Ap (W.alloc o) cv W7 v7) :
    Bx3 W7 D bv (.int .i64 p) cv ∧ Rk B D bv (W7.setCell ⟨D, 2, none⟩ v7) p v7 (cl ++ [z]) ∧ Mk W (rkQ D cv) (W7.setCell ⟨D, 2, none⟩ v7) (rkQ D v7) := by
  have hD := h.box.lt
  have hsz : (W.alloc o).heap.size = W.heap.size + 1 := by simp
  have hne := h.box.not_row h.own
  have b0 : Bx3 (W.alloc o) D bv (.int .i64 p) cv := (Below.heap_alloc _ _ _ hD).trans h.box
  have b7 : Bx3 W7 D bv (.int .i64 p) cv := (ap7.grown.block D (by omega) hne).trans b0
  have o7 : Own B W7 v7 (cl ++ [z]) := own_one_more own7
  refine ⟨b7, ⟨b7.set2 v7, own_keepB o7 fun k hk => Below.heap_setCell _ ⟨D, 2, none⟩ _ k (fun e => b7.not_row o7 (by have e' : k = D := e; rw [← e']; exact hk))⟩, ⟨?_, ?_, ?_, ?_, fun k hk hq => ?_, fun k hk => ?_⟩⟩
  · exact ap7.grown.os
  · exact ap7.grown.tape
  · exact ap7.grown.output
  · have := ap7.grown.size; rw [World.size_setCell]; omega
  · have h1 : k ≠ D := fun e => hq (.inl e)
    have h2 : some k ≠ cv.ownBlock := fun e => hq (.inr e)
    rw [Below.heap_setCell _ ⟨D, 2, none⟩ _ k h1, ap7.grown.block k (by omega) h2, Below.heap_alloc _ _ _ hk]
  · rcases hk with rfl | hk
    · exact .inl (.inl rfl)
    · rcases ap7.new with e | e
      · exact .inl (.inr (by rw [hk, e]))
      · have := e k hk.symm; exact .inr (by omega)
/-- bytes from a place on -/
theorem RdY.drop {w : World} {b off c : Nat} {T : List UInt8} (h : RdY w (.slice (some ⟨b, off, none⟩) T.length c) T) (q : Nat) (hq : q ≤ T.length) {A : Option Addr} (hA : (if c = q then some (⟨b, off, none⟩ : Addr) else some ⟨b, off + q, none⟩) = A) : RdY w (.slice A (T.length - q) (c - q)) (T.drop q) := by
  obtain ⟨h1, a, c', e, hc, hm, hn, h2⟩ := h
  injection e with e1 e2 e3
  subst e1; subst e3
  refine ⟨by rw [List.length_drop]; omega, A, c - q, by rw [List.length_drop], by rw [List.length_drop]; omega, by omega, fun h => ?_, fun hne => ?_⟩
  · subst h; split at hA <;> cases hA
  · have hlt : q < T.length := by
      rcases Nat.lt_or_ge q T.length with h | h
      · exact h
      · exact absurd (List.drop_eq_nil_of_le h) hne
    obtain ⟨b', off', e', hb, hcell⟩ := h2 (by intro e; subst e; simp at hlt)
    injection e' with e'
    injection e' with q1 q2
    subst q1; subst q2
    rw [if_neg (by omega)] at hA
    subst hA
    refine ⟨b, off + q, rfl, hb, fun j hj => ?_⟩
    rw [List.length_drop] at hj
    rw [Nat.add_assoc, hcell (q + j) (by omega)]
    simp [List.getD_eq_getElem?_getD, List.getElem?_drop]

end Go.Proofs.YtilcokpaeapmeaaDoor
set_option linter.unusedSimpArgs false
set_option linter.unusedVariables false
namespace Go.Proofs.YtilcokpaeapmeaaDoor
open Go Go.RowKit

/-- one step of a clause's reading -/
theorem clB_step (all : List UInt8) (f p : Nat) (acc : List Int) : clB all (f + 1) p acc = if (tkB 0 0 (all.drop p)).2.2 = 33 then ([], 33, all.length) else if (tkB 0 0 (all.drop p)).2.2 ≠ 0 then ([], (tkB 0 0 (all.drop p)).2.2, p) else if (tkB 0 0 (all.drop p)).1 = 0 then (acc, 0, p + (tkB 0 0 (all.drop p)).2.1) else if litO (tkB 0 0 (all.drop p)).1 = 0 then ([], 32, p) else clB all f (p + (tkB 0 0 (all.drop p)).2.1) (acc ++ [litO (tkB 0 0 (all.drop p)).1]) := rfl

/-- what a clause's reading leaves -/
def ClaP (w0 W : World) (D : Nat) (bv cv : Value) (r : List Int × Int × Nat) (e : Ending) (W' : World) : Prop :=
  ∃ v cv' cl', e = .returned (.tuple #[v, .int .i64 r.2.1]) ∧ Rk w0.heap.size D bv W' r.2.2 cv' cl' ∧ Own W.heap.size W' v r.1 ∧ (v.ownBlock = none ∨ v.ownBlock ≠ cv'.ownBlock) ∧ Mk W (rkQ D cv) W' (rkQ D cv')

set_option maxHeartbeats 3200000 in
set_option maxRecDepth 100000 in
theorem clause_any (w0 W : World) (D p : Nat) (all : List UInt8) (bv cv : Value) (cl : List Int) (hr : RdY w0 bv all) (hb0 : Below w0.heap.size w0 W) (hD : w0.heap.size ≤ D) (h : Rk w0.heap.size D bv W p cv cl) (hp : p ≤ all.length) (hne : 0 < all.length) (hbig : all.length ≤ 1099511627776) :
    Calls Tryd.prog 60 #[.pointer (some ⟨D, 0, none⟩)] W (ClaP w0 W D bv cv (clB all (all.length + 1) p [])) := by
  obtain ⟨i0, hi, hz0, hz1, hz2⟩ := info_parts Tryd.info3
  have HR : Hid (RdY w0 bv all) := hr
  obtain ⟨a, c, rfl, hc, hm, hcell⟩ := hr.form
  obtain ⟨b, off, rfl, hbl, _⟩ := hcell 0 hne
  have HK : Hid (Rk w0.heap.size D (.slice (some ⟨b, off, none⟩) all.length c) W p cv cl) := h
  have HB0 : Hid (Below w0.heap.size w0 W) := hb0
  have hDW : D < W.heap.size := h.box.lt
  have hs0 := hb0.size
  obtain ⟨u, hu, hou, hbu⟩ := own_cutB h.own
  obtain ⟨ua, uc, hue⟩ : ∃ ua uc, u = .slice ua 0 uc := own_form hou
  subst hue
  have hu2 : ∀ W', (Instr.sliceAt 58 cv none (some (.int .i64 0)) none).run Tryd.prog W' = .ok (.slice ua 0 uc) W' := fun W' => by
    rw [run_sliceAt_slice W' 58 cv _ _ _ (by simp [Program.elem, Tryd.underlying58])]; exact hu W'
  obtain ⟨HK1, HM1⟩ := h.cut hou hbu
  have HK1 : Hid (Rk w0.heap.size D (.slice (some ⟨b, off, none⟩) all.length c) (W.setCell ⟨D, 2, none⟩ (.slice ua 0 uc)) p (.slice ua 0 uc) []) := HK1
  have HM1 : Hid (Mk W (rkQ D cv) (W.setCell ⟨D, 2, none⟩ (.slice ua 0 uc)) (rkQ D (.slice ua 0 uc))) := HM1
  have HQ : Hid (∀ k, rkQ D cv k → w0.heap.size ≤ k) := fun k hk => by
    rcases hk with rfl | hk
    · exact hD
    · exact own_ge h.own k hk
  obtain ⟨c0, c1, c2⟩ := h.box.c
  obtain ⟨f1, f2⟩ := h.box.f
  clear hr hcell h hou hbu hb0
  obtain ⟨X, hX⟩ : ∃ X, X = clB all (all.length + 1) p [] := ⟨_, rfl⟩
  rw [← hX]
  have HX : Hid (clB all (all.length + 1) p [] = X) := hX.symm
  clear hX
  go_enter Tryd.func60, Tryd.ntmps60
  go_wp2
  clear c0 c1 c2 f1 f2 hu hu2
  generalize W.setCell ⟨D, 2, none⟩ (.slice ua 0 uc) = W1 at *
  go_loopg [2] (all.length + 1) (fun g x wr => ∃ (q : Nat) (cq : Value) (acc : List Int), x = .slice none 0 0 ∧ all.length < q + g ∧ q ≤ all.length ∧ acc.length ≤ q ∧ clB all g q acc = X ∧ Hid (Rk w0.heap.size D (.slice (some ⟨b, off, none⟩) all.length c) wr q cq acc) ∧ Hid (Mk W (rkQ D cv) wr (rkQ D cq)))
  case atStart => exact ⟨p, _, [], rfl, by omega, hp, by simp, HX.out, HK1.out, HM1.out⟩
  case round =>
    clear HX HK1 HM1
    obtain ⟨q, cq, acc, rfl, hg, hq, hacc, hX, RK, MK⟩ := hrel
    obtain ⟨g, rfl⟩ : ∃ g, gk = g + 1 := ⟨gk - 1, by omega⟩
    have HX : Hid (clB all (g + 1) q acc = X) := hX
    have HBr : Hid (Below w0.heap.size w0 wr) := MK.out.low HB0.out hs0 HQ.out
    have hsr := HBr.out.size
    have hsW := MK.out.size
    obtain ⟨c0, c1, c2⟩ := RK.out.box.c
    obtain ⟨f1, f2⟩ := RK.out.box.f
    obtain ⟨A, hA⟩ : ∃ A, (if c = q then some (⟨b, off, none⟩ : Addr) else some ⟨b, off + q, none⟩) = A := ⟨_, rfl⟩
    have HT : Hid (∀ k, Calls Tryd.prog 22 #[.slice A (all.length - q) (c - q)] (wr.drewN k) fun e w' => e = .returned (.tuple #[.int .u64 (tkB 0 0 (all.drop q)).1, .int .i64 (tkB 0 0 (all.drop q)).2.1, .int .i64 (tkB 0 0 (all.drop q)).2.2]) ∧ w' = wr.drewN k) := fun k => take_any _ _ _ (((HR.out.drop q hq hA).below HBr.out).below (below_drewN _ _))
    clear hX
    rcases tk_all (all.drop q) with ht | ht | ⟨n, hn, ht, hd⟩
    · rw [ht] at HT
      have hXe : X = ([], 33, all.length) := by rw [← HX.out, clB_step, ht]; rfl
      clear HX
      subst hXe
      go_wp2_with fail
      go_quiet ((go_at_call 22; exact Calls.quiet_of_same (HT.out _)))
      go_wp2
      go_returns
      have R9 := (RK.out.below (below_drewN wr nq)).at all.length
      exact ⟨_, cq, acc, rfl, R9, World.ownsRow_nil _ _ _ _, .inl rfl, (MK.out.trans (Mk.below (below_drewN wr nq) _)).trans (mk_set _)⟩
    · rw [ht] at HT
      have hXe : X = ([], 101, q) := by rw [← HX.out, clB_step, ht]; rfl
      clear HX
      subst hXe
      go_wp2_with fail
      go_quiet ((go_at_call 22; exact Calls.quiet_of_same (HT.out _)))
      go_wp2
      go_returns
      exact ⟨_, cq, acc, rfl, RK.out.below (below_drewN wr nq), World.ownsRow_nil _ _ _ _, .inl rfl, MK.out.trans (Mk.below (below_drewN wr nq) _)⟩
    · rw [ht] at HT
      have hXe : X = if n = 0 then (acc, 0, q + (numB n).length) else if litO n = 0 then ([], 32, q) else clB all g (q + (numB n).length) (acc ++ [litO n]) := by rw [← HX.out, clB_step, ht]; simp
      have hLp := numB_pos n
      have hLq : q + (numB n).length ≤ all.length := by
        have h1 := congrArg List.length hd
        simp only [List.length_drop, List.length_append] at h1
        omega
      have h10 := numB_10 hn
      have HLit : Hid (∀ W, Calls Tryd.prog 69 #[.int .u64 n] W fun e w' => e = .returned (.int .i64 (litO n)) ∧ w' = W) := fun W => literalOf_any n W hn
      clear HX ht hd
      generalize (numB n).length = L at *
      have HLf : Hid (0 < L ∧ q + L ≤ all.length ∧ L ≤ 10) := ⟨hLp, hLq, h10⟩
      have HNf : Hid (n < 18446744073709551616) := hn
      clear hLp hLq h10 hn
      by_cases hn0 : n = 0
      · rw [if_pos hn0] at hXe
        subst hn0
        subst hXe
        go_wp2_with fail
        go_quiet ((go_at_call 22; exact Calls.quiet_of_same (HT.out _)))
        obtain ⟨hLp, hLq, h10⟩ := HLf.out
        have R8 : Hid (Rk w0.heap.size D (.slice (some ⟨b, off, none⟩) all.length c) (wr.drewN nq) q cq acc) := RK.out.below (below_drewN wr nq)
        have R9 : Hid (Rk w0.heap.size D (.slice (some ⟨b, off, none⟩) all.length c) ((wr.drewN nq).setCell ⟨D, 1, none⟩ (.int .i64 ((q : Int) + (L : Int)))) (q + L) cq acc) := by
          have := R8.out.at (q + L)
          rw [Int.natCast_add] at this
          exact this
        have M9 : Hid (Mk W (rkQ D cv) ((wr.drewN nq).setCell ⟨D, 1, none⟩ (.int .i64 ((q : Int) + (L : Int)))) (rkQ D cq)) := (MK.out.trans (Mk.below (below_drewN wr nq) _)).trans (mk_set _)
        have hs9 := M9.out.size
        have hC2 := R9.out.box.c.2.2
        go_wp2_with (at_builtin; refine wpList_app_rd rfl _ _ rfl W.heap.size _ _ [] acc rfl rfl (World.ownsRow_nil _ _ _ _) (R9.out.own.rd (by omega)) (by simp; omega) hs9 ?_; intro v3 w3 own3 ap3)
        go_returns
        have bel3 := (Below.refl ((wr.drewN nq).setCell ⟨D, 1, none⟩ (.int .i64 ((q : Int) + (L : Int)))).heap.size _).grown ap3.grown (Nat.le_refl _) (fun k hk => by cases hk)
        refine ⟨_, cq, acc, rfl, R9.out.below bel3, own3, ?_, M9.out.trans (Mk.below bel3 _)⟩
        rcases ap3.new with e | e
        · exact .inl e
        · by_cases hv : v3.ownBlock = none
          · exact .inl hv
          · refine .inr fun e2 => ?_
            obtain ⟨k, hk⟩ := Option.ne_none_iff_exists'.1 hv
            have h1 := e k hk
            have h2 := (World.ownsRow.lt R9.out.own k (by rw [← e2]; exact hk)).2
            omega
      · rw [if_neg hn0] at hXe
        have hnb : ((n : Int) == 0) = false := beq_eq_false_iff_ne.2 (by omega)
        by_cases hl0 : litO n = 0
        · rw [if_pos hl0] at hXe
          subst hXe
          have HLit0 : Hid (∀ W, Calls Tryd.prog 69 #[.int .u64 n] W fun e w' => e = .returned (.int .i64 0) ∧ w' = W) := fun W => by have := HLit.out W; rwa [hl0] at this
          clear HLit hl0
          go_wp2_with fail
          go_quiet ((go_at_call 22; exact Calls.quiet_of_same (HT.out _)))
          obtain ⟨hLp, hLq, h10⟩ := HLf.out
          go_wp2_with (go_at_call 69; refine (HLit0.out _).mono ?_; rintro e w4 ⟨rfl, rfl⟩)
          go_returns
          exact ⟨_, cq, acc, rfl, RK.out.below (below_drewN wr nq), World.ownsRow_nil _ _ _ _, .inl rfl, MK.out.trans (Mk.below (below_drewN wr nq) _)⟩
        · rw [if_neg hl0] at hXe
          have HX2 : Hid (X = clB all g (q + L) (acc ++ [litO n])) := hXe
          have hzb : (litO n == 0) = false := beq_eq_false_iff_ne.2 hl0
          have hzr : -9223372036854775808 ≤ litO n ∧ litO n ≤ 9223372036854775807 := by have := fmd_range (litO_some hl0).1; omega
          clear hXe hl0
          generalize litO n = z at *
          go_wp2_with fail
          go_quiet ((go_at_call 22; exact Calls.quiet_of_same (HT.out _)))
          obtain ⟨hLp, hLq, h10⟩ := HLf.out
          have R8 : Hid (Rk w0.heap.size D (.slice (some ⟨b, off, none⟩) all.length c) (wr.drewN nq) q cq acc) := RK.out.below (below_drewN wr nq)
          have R9 : Hid (Rk w0.heap.size D (.slice (some ⟨b, off, none⟩) all.length c) ((wr.drewN nq).setCell ⟨D, 1, none⟩ (.int .i64 ((q : Int) + (L : Int)))) (q + L) cq acc) := by
            have := R8.out.at (q + L)
            rw [Int.natCast_add] at this
            exact this
          have M9 : Hid (Mk W (rkQ D cv) ((wr.drewN nq).setCell ⟨D, 1, none⟩ (.int .i64 ((q : Int) + (L : Int)))) (rkQ D cq)) := (MK.out.trans (Mk.below (below_drewN wr nq) _)).trans (mk_set _)
          have hs9 := M9.out.size
          go_upto_region 14 with (go_at_call 69; refine (HLit.out _).mono ?_; rintro e w4 ⟨rfl, rfl⟩)
          clear c0 c1 c2 f1 f2 R8
          generalize (wr.drewN nq).setCell ⟨D, 1, none⟩ (.int .i64 ((q : Int) + (L : Int))) = W9 at *
          have hC2 := R9.out.box.c.2.2
          go_wp2_with (at_builtin; refine wpList_append_apk rfl _ _ 58 rfl w0.heap.size 3 i0 (.int .i64 0) 1 8 Tryd.underlying58 hi hz0 hz1 hz2 rfl (by decide) _ acc.length (acc.map (Value.int .i64)) rfl (World.ownsRow.alloc R9.out.own _) _ 1 1 [.int .i64 z] rfl rfl (cell_one_new _ _ _) (by simp [Value.oneCell']) (by unfold maxLen; omega) (by omega) (by simp; omega) ?_; intro v7 w7 own7 ap7; refine Hid.out ?_)
          refine Lib.hid ?_
          obtain ⟨b7, R7, M7⟩ := R9.out.app own7 ap7
          obtain ⟨a7, x7, rfl⟩ : ∃ a x, v7 = .slice a (acc.length + 1) x := by
            have := own_form (own_one_more own7)
            simpa using this
          have F7 := b7.f
          have C7 := b7.c
          obtain ⟨C70, C71, C72⟩ := C7
          obtain ⟨F71, F72⟩ := F7
          clear hC2
          go_wp2
          go_roundg g
          case measure => omega
          case rel => exact ⟨q + L, _, acc ++ [z], rfl, by omega, by omega, by simp; omega, HX2.out.symm, R7, M9.out.trans M7⟩

end Go.Proofs.YtilcokpaeapmeaaDoor
set_option linter.unusedSimpArgs false
set_option linter.unusedVariables false
namespace Go.Proofs.YtilcokpaeapmeaaDoor
open Go Go.RowKit

/-- what is so while the step's own box is written -/
structure SfP (w0 W : World) (D E : Nat) (bv cv v : Value) (l : List Int) (q : Nat) (W' : World) : Prop where
  rk : ∃ cv' cl', Rk w0.heap.size D bv W' q cv' cl' ∧ some E ≠ cv'.ownBlock ∧ (v.ownBlock = none ∨ v.ownBlock ≠ cv'.ownBlock) ∧ Mk W (rkQ D cv) W' (rkQ D cv')
  own : Own W.heap.size W' v l
  nv : some E ≠ v.ownBlock
  ne : E ≠ D
  ge : W.heap.size ≤ E
theorem SfP.set {w0 W : World} {D E : Nat} {bv cv v : Value} {l : List Int} {q : Nat} {W' : World} (h : SfP w0 W D E bv cv v l q W') (o : Nat) (x : Value) : SfP w0 W D E bv cv v l q (W'.setCell ⟨E, o, none⟩ x) := by
  obtain ⟨cv', cl', h1, h2, h2', h3⟩ := h.rk
  have hk : ∀ k, k ≠ E → (W'.setCell ⟨E, o, none⟩ x).heap[k]? = W'.heap[k]? := fun k hk => Below.heap_setCell _ ⟨E, o, none⟩ _ k hk
  refine ⟨⟨cv', cl', ⟨h1.box.kept (hk D h.ne.symm), own_keepB h1.own fun k hq => hk k (fun e => h2 (by rw [← e]; exact hq))⟩, h2, h2', ⟨h3.os, h3.tape, h3.output, by rw [World.size_setCell]; exact h3.size, fun k hlt hq => ?_, h3.new⟩⟩, own_keepB h.own fun k hq => hk k (fun e => h.nv (by rw [← e]; exact hq)), h.nv, h.ne, h.ge⟩
  rw [hk k (by have := h.ge; omega)]
  exact h3.block k hlt hq
theorem ret_st2 {fn : Func} {p u : Tmp} {tmps : Array Value} {W : World} {E : Nat} {x y : Value} (h : fn.results = #[.cell p 61, .tmp u]) (hp : tmps.getD p undef = .pointer (some ⟨E, 0, none⟩)) (hb : Bx2 W E 61 x y) : (results fn tmps).run Tryd.prog W = .ok (.tuple #[.agg #[x, y], tmps.getD u undef]) W := by
  rw [results_cell_tmp h, hp]
  have c0 := hb.c0
  have c1 := hb.c1
  simp only [asAddr]
  go_simp
/-- what a step's reading leaves -/
def StpP (w0 W : World) (D : Nat) (bv cv : Value) (r : Stp × Int × Nat) (e : Ending) (W' : World) : Prop :=
  ∃ v cv' cl', e = .returned (.tuple #[.agg #[.bool r.1.1, v], .int .i64 r.2.1]) ∧ Rk w0.heap.size D bv W' r.2.2 cv' cl' ∧ Own W.heap.size W' v r.1.2 ∧ (v.ownBlock = none ∨ v.ownBlock ≠ cv'.ownBlock) ∧ Mk W (rkQ D cv) W' (rkQ D cv')

set_option maxHeartbeats 3200000 in
set_option maxRecDepth 100000 in
theorem step_any (w0 W : World) (D p : Nat) (all : List UInt8) (bv cv : Value) (cl : List Int) (hr : RdY w0 bv all) (hb0 : Below w0.heap.size w0 W) (hD : w0.heap.size ≤ D) (h : Rk w0.heap.size D bv W p cv cl) (hp : p < all.length) (hbig : all.length ≤ 1099511627776) :
    Calls Tryd.prog 46 #[.pointer (some ⟨D, 0, none⟩)] W (StpP w0 W D bv cv (stB all p)) := by
  have HR : Hid (RdY w0 bv all) := hr
  obtain ⟨a, c, rfl, hc, hm, hcell⟩ := hr.form
  obtain ⟨b, off, rfl, hbl, hcp⟩ := hcell p hp
  have HB0 : Hid (Below w0.heap.size w0 W) := hb0
  have hDW : D < W.heap.size := h.box.lt
  have hs0 := hb0.size
  have hne : W.heap.size ≠ D := by omega
  have hcve : some W.heap.size ≠ cv.ownBlock := fun e => by have := (World.ownsRow.lt h.own _ e.symm).2; omega
  have HQ : Hid (∀ k, rkQ D cv k → w0.heap.size ≤ k) := fun k hk => by
    rcases hk with rfl | hk
    · exact hD
    · exact own_ge h.own k hk
  have RK1 : Hid (Rk w0.heap.size D (.slice (some ⟨b, off, none⟩) all.length c) (W.alloc (.cells #[.bool false, .slice none 0 0] 61)) p cv cl) := h.below (below_box _ _)
  have BX1 : Hid (Bx2 (W.alloc (.cells #[.bool false, .slice none 0 0] 61)) W.heap.size 61 (.bool false) (.slice none 0 0)) := Bx2.new _ _ _ _
  have M1 : Hid (Mk W (rkQ D cv) (W.alloc (.cells #[.bool false, .slice none 0 0] 61)) (rkQ D cv)) := Mk.below (below_box _ _) _
  have hcy : (W.alloc (.cells #[.bool false, .slice none 0 0] 61)).cell? ⟨b, off + p, none⟩ = some (.int .u8 (all.getD p 0).toNat) := ((hb0.alloc hs0 _).cell (p := ⟨b, off + p, none⟩) hbl).trans hcp
  obtain ⟨c0, c1, c2⟩ := RK1.out.box.c
  clear hr hcell h hb0 hcp
  obtain ⟨y, hy0⟩ : ∃ y, all.getD p 0 = y := ⟨_, rfl⟩
  rw [hy0] at hcy
  have hyl : y.toNat < 256 := y.toNat_lt
  go_enter Tryd.func46, Tryd.ntmps46
  go_wp2_with fail
  generalize W.alloc (.cells #[.bool false, .slice none 0 0] 61) = W1 at *
  by_cases h100 : y = 100
  · subst h100
    have HX : Hid (stB all p = ((true, (clB all (all.length + 1) (p + 1) []).1), (clB all (all.length + 1) (p + 1) []).2)) := st_of all p true (by rw [hy0]; rfl)
    go_quiet (fail)
    have RK2 := RK1.out.below (below_drewN W1 nq)
    have BX2 := BX1.out.below (below_drewN W1 nq)
    have M2 := M1.out.trans (Mk.below (below_drewN W1 nq) _)
    have hD2 : D < (W1.drewN nq).heap.size := RK2.box.lt
    generalize W1.drewN nq = W2 at *
    have RK3 : Rk w0.heap.size D (.slice (some ⟨b, off, none⟩) all.length c) (W2.setCell ⟨W.heap.size, 0, none⟩ (.bool true)) p cv cl := ⟨RK2.box.kept (Below.heap_setCell _ ⟨W.heap.size, 0, none⟩ _ D hne.symm), own_keepB RK2.own fun k hq => Below.heap_setCell _ ⟨W.heap.size, 0, none⟩ _ k (fun e => hcve (by have e' : k = W.heap.size := e; rw [← e']; exact hq))⟩
    have M3 : Mk W (rkQ D cv) (W2.setCell ⟨W.heap.size, 0, none⟩ (.bool true)) (rkQ D cv) := ⟨M2.os, M2.tape, M2.output, by rw [World.size_setCell]; exact M2.size, fun k hk hq => (Below.heap_setCell _ ⟨W.heap.size, 0, none⟩ _ k (fun e => by have e' : k = W.heap.size := e; omega)).trans (M2.block k hk hq), M2.new⟩
    have BX3 := BX2.set0 (.bool true)
    have RK3' := RK3.at (p + 1)
    rw [Int.natCast_add] at RK3'
    have M3' := M3.trans (mk_set (o := 1) (.int .i64 ((p : Int) + 1)))
    have BX3' : Bx2 ((W2.setCell ⟨W.heap.size, 0, none⟩ (.bool true)).setCell ⟨D, 1, none⟩ (.int .i64 ((p : Int) + 1))) W.heap.size 61 (.bool true) (.slice none 0 0) := (Below.heap_setCell _ ⟨D, 1, none⟩ _ W.heap.size hne).trans BX3
    have RK4 : Hid (Rk w0.heap.size D (.slice (some ⟨b, off, none⟩) all.length c) ((W2.setCell ⟨W.heap.size, 0, none⟩ (.bool true)).setCell ⟨D, 1, none⟩ (.int .i64 ((p : Int) + 1))) (p + 1) cv cl) := RK3'
    have M4 : Hid (Mk W (rkQ D cv) ((W2.setCell ⟨W.heap.size, 0, none⟩ (.bool true)).setCell ⟨D, 1, none⟩ (.int .i64 ((p : Int) + 1))) (rkQ D cv)) := M3'
    have BX4 : Hid (Bx2 ((W2.setCell ⟨W.heap.size, 0, none⟩ (.bool true)).setCell ⟨D, 1, none⟩ (.int .i64 ((p : Int) + 1))) W.heap.size 61 (.bool true) (.slice none 0 0)) := BX3'
    obtain ⟨d0, d1, d2⟩ := RK2.box.c
    obtain ⟨g1, g2⟩ := RK2.box.f
    have e0 := BX2.c0
    have e1 := BX2.c1
    have j0 := BX2.f0
    have j1 := BX2.f1
    have HC : Hid (Calls Tryd.prog 60 #[.pointer (some ⟨D, 0, none⟩)] ((W2.setCell ⟨W.heap.size, 0, none⟩ (.bool true)).setCell ⟨D, 1, none⟩ (.int .i64 ((p : Int) + 1))) (ClaP w0 ((W2.setCell ⟨W.heap.size, 0, none⟩ (.bool true)).setCell ⟨D, 1, none⟩ (.int .i64 ((p : Int) + 1))) D (.slice (some ⟨b, off, none⟩) all.length c) cv (clB all (all.length + 1) (p + 1) []))) := clause_any w0 _ D (p + 1) all _ cv cl HR.out (M4.out.low HB0.out hs0 HQ.out) hD RK4.out (by omega) (by omega) hbig
    clear RK3' M3' BX3' RK2 BX2 M2 RK3 M3 BX3
    go_wp2_with (go_at_call 60; refine HC.out.mono ?_; rintro e w4 ⟨v, cv', cl', rfl, rk4, own4, ap4, mk4⟩; refine Hid.out ?_)
    refine Lib.hid ?_
    clear d0 d1 d2 g1 g2 e0 e1 j0 j1 HC
    generalize (W2.setCell ⟨W.heap.size, 0, none⟩ (.bool true)).setCell ⟨D, 1, none⟩ (.int .i64 ((p : Int) + 1)) = W3 at *
    have hE3 := BX4.out.lt
    have hrw := RK4.out.box.lt
    have BX5 : Bx2 w4 W.heap.size 61 (.bool true) (.slice none 0 0) := (mk4.block _ hE3 (fun hq => by
      rcases hq with e | e
      · exact hne e
      · exact hcve e)).trans BX4.out
    have hE4 : some W.heap.size ≠ cv'.ownBlock := fun e => by
      rcases mk4.new W.heap.size (.inr e) with (e' | e') | e'
      · exact hne e'
      · exact hcve e'
      · omega
    have hEv : some W.heap.size ≠ v.ownBlock := fun e => by have := own_ge own4 _ e; omega
    have SF : Hid (SfP w0 W D W.heap.size (.slice (some ⟨b, off, none⟩) all.length c) cv v (clB all (all.length + 1) (p + 1) []).1 (clB all (all.length + 1) (p + 1) []).2.2 w4) := ⟨⟨cv', cl', rk4, hE4, ap4, M4.out.trans mk4⟩, own4.mono M4.out.size, hEv, hne, Nat.le_refl _⟩
    have BX6 : Hid (Bx2 w4 W.heap.size 61 (.bool true) (.slice none 0 0)) := BX5
    obtain ⟨va, vc, hv⟩ := own_form own4
    generalize (clB all (all.length + 1) (p + 1) []).1.length = vl at hv
    subst hv
    generalize clB all (all.length + 1) (p + 1) [] = X at *
    obtain ⟨x1, x2, x3⟩ := X
    dsimp only at *
    have e0 := BX5.c0
    have e1 := BX5.c1
    have j0 := BX5.f0
    have j1 := BX5.f1
    clear rk4 own4 mk4 hE4 hEv BX5 ap4
    go_wp2
    refine bodyPost_ret (ret_st2 rfl rfl (((BX6.out.set1 (.slice va vl vc)).set0 (.bool true)).set1 (.slice va vl vc))) rfl ?_
    rw [HX.out]
    have SF9 := ((SF.out.set 1 (.slice va vl vc)).set 0 (.bool true)).set 1 (.slice va vl vc)
    obtain ⟨cv9, cl9, r9, _, a9, m9⟩ := SF9.rk
    exact ⟨_, cv9, cl9, rfl, r9, SF9.own, a9, m9⟩
  by_cases h97 : y = 97
  · subst h97
    have HX : Hid (stB all p = ((false, (clB all (all.length + 1) (p + 1) []).1), (clB all (all.length + 1) (p + 1) []).2)) := st_of all p false (by rw [hy0]; rfl)
    go_quiet (fail)
    have RK2 := RK1.out.below (below_drewN W1 nq)
    have BX2 := BX1.out.below (below_drewN W1 nq)
    have M2 := M1.out.trans (Mk.below (below_drewN W1 nq) _)
    have hD2 : D < (W1.drewN nq).heap.size := RK2.box.lt
    generalize W1.drewN nq = W2 at *
    have RK3 := RK2
    have M3 := M2
    have BX3 := BX2
    have RK3' := RK3.at (p + 1)
    rw [Int.natCast_add] at RK3'
    have M3' := M3.trans (mk_set (o := 1) (.int .i64 ((p : Int) + 1)))
    have BX3' : Bx2 (W2.setCell ⟨D, 1, none⟩ (.int .i64 ((p : Int) + 1))) W.heap.size 61 (.bool false) (.slice none 0 0) := (Below.heap_setCell _ ⟨D, 1, none⟩ _ W.heap.size hne).trans BX3
    have RK4 : Hid (Rk w0.heap.size D (.slice (some ⟨b, off, none⟩) all.length c) (W2.setCell ⟨D, 1, none⟩ (.int .i64 ((p : Int) + 1))) (p + 1) cv cl) := RK3'
    have M4 : Hid (Mk W (rkQ D cv) (W2.setCell ⟨D, 1, none⟩ (.int .i64 ((p : Int) + 1))) (rkQ D cv)) := M3'
    have BX4 : Hid (Bx2 (W2.setCell ⟨D, 1, none⟩ (.int .i64 ((p : Int) + 1))) W.heap.size 61 (.bool false) (.slice none 0 0)) := BX3'
    obtain ⟨d0, d1, d2⟩ := RK2.box.c
    obtain ⟨g1, g2⟩ := RK2.box.f
    have e0 := BX2.c0
    have e1 := BX2.c1
    have j0 := BX2.f0
    have j1 := BX2.f1
    have HC : Hid (Calls Tryd.prog 60 #[.pointer (some ⟨D, 0, none⟩)] (W2.setCell ⟨D, 1, none⟩ (.int .i64 ((p : Int) + 1))) (ClaP w0 (W2.setCell ⟨D, 1, none⟩ (.int .i64 ((p : Int) + 1))) D (.slice (some ⟨b, off, none⟩) all.length c) cv (clB all (all.length + 1) (p + 1) []))) := clause_any w0 _ D (p + 1) all _ cv cl HR.out (M4.out.low HB0.out hs0 HQ.out) hD RK4.out (by omega) (by omega) hbig
    clear RK3' M3' BX3' RK2 BX2 M2 RK3 M3 BX3
    go_wp2_with (go_at_call 60; refine HC.out.mono ?_; rintro e w4 ⟨v, cv', cl', rfl, rk4, own4, ap4, mk4⟩; refine Hid.out ?_)
    refine Lib.hid ?_
    clear d0 d1 d2 g1 g2 e0 e1 j0 j1 HC
    generalize W2.setCell ⟨D, 1, none⟩ (.int .i64 ((p : Int) + 1)) = W3 at *
    have hE3 := BX4.out.lt
    have hrw := RK4.out.box.lt
    have BX5 : Bx2 w4 W.heap.size 61 (.bool false) (.slice none 0 0) := (mk4.block _ hE3 (fun hq => by
      rcases hq with e | e
      · exact hne e
      · exact hcve e)).trans BX4.out
    have hE4 : some W.heap.size ≠ cv'.ownBlock := fun e => by
      rcases mk4.new W.heap.size (.inr e) with (e' | e') | e'
      · exact hne e'
      · exact hcve e'
      · omega
    have hEv : some W.heap.size ≠ v.ownBlock := fun e => by have := own_ge own4 _ e; omega
    have SF : Hid (SfP w0 W D W.heap.size (.slice (some ⟨b, off, none⟩) all.length c) cv v (clB all (all.length + 1) (p + 1) []).1 (clB all (all.length + 1) (p + 1) []).2.2 w4) := ⟨⟨cv', cl', rk4, hE4, ap4, M4.out.trans mk4⟩, own4.mono M4.out.size, hEv, hne, Nat.le_refl _⟩
    have BX6 : Hid (Bx2 w4 W.heap.size 61 (.bool false) (.slice none 0 0)) := BX5
    obtain ⟨va, vc, hv⟩ := own_form own4
    generalize (clB all (all.length + 1) (p + 1) []).1.length = vl at hv
    subst hv
    generalize clB all (all.length + 1) (p + 1) [] = X at *
    obtain ⟨x1, x2, x3⟩ := X
    dsimp only at *
    have e0 := BX5.c0
    have e1 := BX5.c1
    have j0 := BX5.f0
    have j1 := BX5.f1
    clear rk4 own4 mk4 hE4 hEv BX5 ap4
    go_wp2
    refine bodyPost_ret (ret_st2 rfl rfl (((BX6.out.set1 (.slice va vl vc)).set0 (.bool false)).set1 (.slice va vl vc))) rfl ?_
    rw [HX.out]
    have SF9 := ((SF.out.set 1 (.slice va vl vc)).set 0 (.bool false)).set 1 (.slice va vl vc)
    obtain ⟨cv9, cl9, r9, _, a9, m9⟩ := SF9.rk
    exact ⟨_, cv9, cl9, rfl, r9, SF9.own, a9, m9⟩
  · have HX : Hid (stB all p = ((false, []), 100, p)) := by show _ = _; unfold stB; rw [hy0, if_neg h100, if_neg h97]
    have hb100 : ((y.toNat : Int) == 100) = false := beq_eq_false_iff_ne.2 (fun e => h100 (UInt8.toNat_inj.1 ((by omega : y.toNat = 100).trans rfl)))
    have hb97 : ((y.toNat : Int) == 97) = false := beq_eq_false_iff_ne.2 (fun e => h97 (UInt8.toNat_inj.1 ((by omega : y.toNat = 97).trans rfl)))
    go_quiet (fail)
    have RK2 := RK1.out.below (below_drewN W1 nq)
    have BX2 := BX1.out.below (below_drewN W1 nq)
    have M2 := M1.out.trans (Mk.below (below_drewN W1 nq) _)
    generalize W1.drewN nq = W2 at *
    have SF : Hid (SfP w0 W D W.heap.size (.slice (some ⟨b, off, none⟩) all.length c) cv (.slice none 0 0) [] p W2) := ⟨⟨cv, cl, RK2, hcve, .inl rfl, M2⟩, World.ownsRow_nil _ _ _ _, by simp [Value.ownBlock], hne, Nat.le_refl _⟩
    have BX6 : Hid (Bx2 W2 W.heap.size 61 (.bool false) (.slice none 0 0)) := BX2
    have e0 := BX2.c0
    have e1 := BX2.c1
    have j0 := BX2.f0
    have j1 := BX2.f1
    clear RK2 BX2 M2
    go_wp2
    refine bodyPost_ret (ret_st2 rfl rfl ((BX6.out.set0 (.bool false)).set1 (.slice none 0 0))) rfl ?_
    rw [HX.out]
    have SF9 := (SF.out.set 0 (.bool false)).set 1 (.slice none 0 0)
    obtain ⟨cv9, cl9, r9, _, a9, m9⟩ := SF9.rk
    exact ⟨_, cv9, cl9, rfl, r9, SF9.own, a9, m9⟩

end Go.Proofs.YtilcokpaeapmeaaDoor
set_option linter.unusedSimpArgs false
set_option linter.unusedVariables false
namespace Go.Proofs.YtilcokpaeapmeaaDoor
open Go Go.RowKit

theorem Bx3.not_rowZ {W : World} {D : Nat} {x0 x1 x2 : Value} (h : Bx3 W D x0 x1 x2) {base n : Nat} {v : Value} {xs : List Value} (hr : W.ownsRow base 61 2 v n xs) : some D ≠ v.ownBlock := by
  rcases hr.2 with ⟨rfl, _⟩ | ⟨g, cap, cur, rfl, _, hgb, _⟩
  · simp [Value.ownBlock]
  · intro e'
    have e2 : D = g := by simpa [Value.ownBlock] using e'
    subst e2
    rw [show W.heap[D]? = _ from h] at hgb
    cases hgb
theorem own_not_rowZ {W : World} {base base' n : Nat} {u v : Value} {xs : List Value} {zs : List Int} (ho : Own base' W u zs) (hr : W.ownsRow base 61 2 v n xs) {k : Nat} (h1 : some k = u.ownBlock) (h2 : some k = v.ownBlock) : False := by
  rcases hr.2 with ⟨rfl, _⟩ | ⟨g, cap, cur, rfl, _, hgb, _⟩
  · cases h2
  · rcases ho.2 with ⟨rfl, _⟩ | ⟨g', cap', cur', rfl, _, hgb', _⟩
    · cases h1
    · have e1 : k = g' := by simpa [Value.ownBlock] using h1
      have e2 : k = g := by simpa [Value.ownBlock] using h2
      subst e1; subst e2
      rw [hgb] at hgb'
      cases hgb'
/-- the reader and the steps so far -/
structure Dk (w : World) (D : Nat) (bv : Value) (wr : World) (u : Value) (L : List SV) (q : Nat) (cv : Value) (cl : List Int) : Prop where
  rk : Rk w.heap.size D bv wr q cv cl
  oz : OwnZ w.heap.size wr u L
  ap : ∀ x ∈ L, x.2.1.ownBlock = none ∨ x.2.1.ownBlock ≠ cv.ownBlock
  bel : Below w.heap.size w wr
  ge : w.heap.size ≤ D
theorem Dk.kept {w : World} {D : Nat} {bv : Value} {wr w1 : World} {u : Value} {L : List SV} {q q' : Nat} {cv cv' : Value} {cl cl' : List Int} (h : Dk w D bv wr u L q cv cl) (mk : Mk wr (rkQ D cv) w1 (rkQ D cv')) (rk1 : Rk w.heap.size D bv w1 q' cv' cl') : Dk w D bv w1 u L q' cv' cl' := by
  have hrow : ∀ k, some k = u.ownBlock → w1.heap[k]? = wr.heap[k]? := fun k hk => mk.block k (World.ownsRow.lt h.oz.row k hk.symm).2 (fun hq => by
    rcases hq with rfl | hq
    · exact h.rk.box.not_rowZ h.oz.row hk
    · exact own_not_rowZ h.rk.own h.oz.row hq hk)
  have hlist : ∀ x ∈ L, ∀ k, some k = x.2.1.ownBlock → ¬ rkQ D cv k := fun x hx k hk hq => by
    rcases hq with rfl | hq
    · exact h.rk.box.not_row (h.oz.own x hx) hk
    · rcases h.ap x hx with e | e
      · rw [e] at hk; cases hk
      · exact e (by rw [← hk, ← hq])
  refine ⟨rk1, ⟨⟨h.oz.row.1, ?_⟩, fun x hx => own_keepB (h.oz.own x hx) fun k hk => mk.block k (World.ownsRow.lt (h.oz.own x hx) k hk.symm).2 (hlist x hx k hk), h.oz.ap⟩, fun x hx => ?_, mk.low h.bel h.bel.size (fun k hk => ?_), h.ge⟩
  · rcases h.oz.row.2 with hn | ⟨g, cap, cur, hv, hg, hh, r⟩
    · exact .inl hn
    · exact .inr ⟨g, cap, cur, hv, hg, (hrow g (by rw [hv]; rfl)).trans hh, r⟩
  · by_cases hx0 : x.2.1.ownBlock = none
    · exact .inl hx0
    · refine .inr fun e => ?_
      obtain ⟨k, hk⟩ := Option.ne_none_iff_exists'.1 hx0
      rcases mk.new k (.inr (by rw [← e, hk])) with hq | hq
      · exact hlist x hx k hk.symm hq
      · have := (World.ownsRow.lt (h.oz.own x hx) k hk).2; omega
  · rcases hk with rfl | hk
    · exact h.ge
    · exact own_ge h.rk.own k hk
theorem Dk.below {w : World} {D : Nat} {bv : Value} {wr w1 : World} {u : Value} {L : List SV} {q : Nat} {cv : Value} {cl : List Int} (h : Dk w D bv wr u L q cv cl) (hb : Below wr.heap.size wr w1) : Dk w D bv w1 u L q cv cl := h.kept (Mk.below hb _) (h.rk.below hb)
/-- one step more -/
theorem Dk.app {w : World} {D : Nat} {bv : Value} {wr wa w3 : World} {u u' v : Value} {L : List SV} {q : Nat} {cv : Value} {cl : List Int} {d : Bool} {z : List Int} (h : Dk w D bv wr u L q cv cl) (hv : Own w.heap.size wr v z) (hap : ApartC ((L ++ [(d, v, z)]).map Prod.snd)) (hvc : v.ownBlock = none ∨ v.ownBlock ≠ cv.ownBlock) (ha : Below wr.heap.size wr wa)
    (own' : w3.ownsRow w.heap.size 61 2 u' (L.length + 1) (svC L ++ [.bool d, v])) (hg : wa.grownBy w3 u.ownBlock) : Dk w D bv w3 u' (L ++ [(d, v, z)]) q cv cl := by
  have rowa := World.ownsRow.kept h.oz.row (grown_below ha) (one_or _)
  have rka := h.rk.below ha
  refine ⟨⟨rka.box.kept (hg.block D rka.box.lt (rka.box.not_rowZ rowa)), row_apart (by decide) rka.own rowa hg⟩, h.oz.app (grown_below ha) own' hg hv hap, fun x hx => ?_, (h.bel.trans (ha.mono h.bel.size)).grown hg (Nat.le_trans h.bel.size ha.size) (fun k hk => (World.ownsRow.lt rowa k hk).1), h.ge⟩
  rcases List.mem_append.1 hx with hx | hx
  · exact h.ap x hx
  · obtain rfl : x = (d, v, z) := by simpa using hx
    exact hvc
theorem Dk.apart {w : World} {D : Nat} {bv : Value} {wr w1 : World} {u v : Value} {L : List SV} {q : Nat} {cv : Value} {cl : List Int} {d : Bool} {z : List Int} (h : Dk w D bv wr u L q cv cl) (hv : Own wr.heap.size w1 v z) : ApartC ((L ++ [(d, v, z)]).map Prod.snd) := by
  rw [List.map_append]
  exact ApartC.snoc (W := wr) h.oz.ap (fun x hx => by obtain ⟨y, hy, rfl⟩ := List.mem_map.1 hx; exact h.oz.own y hy) hv (Nat.le_refl _)

theorem dcB_more (all : List UInt8) (g q : Nat) (acc : List Stp) (h : q < all.length) : dcB all (g + 1) q acc = if (stB all q).2.1 = 0 then dcB all g (stB all q).2.2 (acc ++ [(stB all q).1]) else ([], (stB all q).2.1, (stB all q).2.2) := by rw [dcB, if_pos h]
theorem st_on (all : List UInt8) (q : Nat) (h : q < all.length) (h0 : (stB all q).2.1 = 0) : q < (stB all q).2.2 ∧ (stB all q).2.2 ≤ all.length := by
  rcases st_say all q h with ⟨x, h1⟩ | ⟨x, hx, h1, h2, h3⟩ | ⟨d, c, ee, y, he, hc, h1, h2, h3⟩ | ⟨y, h1, h2, h3⟩
  · rw [h1] at h0; cases h0
  · rw [h1]; have : 0 < (stpB x).length := by simp [stpB]
    exact ⟨by show q < q + _; omega, h3⟩
  · rw [h1] at h0; rcases he with rfl | rfl <;> cases h0
  · rw [h1] at h0; cases h0
theorem st_le (all : List UInt8) (q : Nat) (h : q < all.length) : (stB all q).2.2 ≤ all.length := by
  rcases st_say all q h with ⟨x, h1⟩ | ⟨x, hx, h1, h2, h3⟩ | ⟨d, c, ee, y, he, hc, h1, h2, h3⟩ | ⟨y, h1, h2, h3⟩ <;> rw [h1]
  · exact Nat.le_refl _
  · exact h3
  · exact Nat.le_of_lt h3
  · exact Nat.le_of_lt h

/-- what Decode leaves -/
def DecP (w : World) (r : List Stp × Int × Nat) (e : Ending) (w' : World) : Prop :=
  ∃ v, e = .returned (.tuple #[v, .int .i64 r.2.1, .int .i64 r.2.2]) ∧ OwnS w.heap.size w' v r.1 ∧ Below w.heap.size w w'

set_option maxHeartbeats 3200000 in
set_option maxRecDepth 100000 in
theorem decode_any (w : World) (bv : Value) (all : List UInt8) (hr : RdY w bv all) (hbig : all.length ≤ 1099511627776) :
    Calls Tryd.prog 20 #[bv] w (DecP w (decB all)) := by
  obtain ⟨il, hil, hzl0, hzl1, hzl2⟩ := info_parts infoZ
  have HR : Hid (RdY w bv all) := hr
  obtain ⟨a, c, rfl, hc, hm, _⟩ := hr.form
  have DK0 : Hid (Dk w w.heap.size (.slice a all.length c) (w.alloc (.cells #[.slice a all.length c, .int .i64 0, .slice none 0 0] 75)) (.slice none 0 0) [] 0 (.slice none 0 0) []) :=
    ⟨⟨Bx3.new _ _ _ _, World.ownsRow_nil _ _ _ _⟩, OwnZ.nil _ _, fun x hx => (by cases hx), below_box _ _, Nat.le_refl _⟩
  clear hr
  obtain ⟨X, hX⟩ : ∃ X, X = decB all := ⟨_, rfl⟩
  rw [← hX]
  have HX : Hid (dcB all (all.length + 1) 0 [] = X) := hX.symm
  clear hX
  go_enter Tryd.func20, Tryd.ntmps20
  go_wp2
  go_loopg [5] (all.length + 1) (fun g u wr => ∃ (q : Nat) (L : List SV) (cv : Value) (cl : List Int), all.length < q + g ∧ q ≤ all.length ∧ L.length ≤ q ∧ dcB all g q (svS L) = X ∧ Hid (Dk w w.heap.size (.slice a all.length c) wr u L q cv cl))
  case atStart => exact ⟨0, [], _, [], by omega, by omega, by simp, HX.out, DK0.out⟩
  case round =>
    clear HX DK0
    obtain ⟨q, L, cv, cl, hg, hq, hL, hX, DK⟩ := hrel
    obtain ⟨g, rfl⟩ : ∃ g, gk = g + 1 := ⟨gk - 1, by omega⟩
    obtain ⟨c0, c1, c2⟩ := DK.out.rk.box.c
    have hs := DK.out.bel.size
    by_cases hlt : q < all.length
    · rw [dcB_more all g q _ hlt] at hX
      have HX : Hid ((if (stB all q).2.1 = 0 then dcB all g (stB all q).2.2 (svS L ++ [(stB all q).1]) else ([], (stB all q).2.1, (stB all q).2.2)) = X) := hX
      have HSt : Hid (Calls Tryd.prog 46 #[.pointer (some ⟨w.heap.size, 0, none⟩)] wr (StpP w wr w.heap.size (.slice a all.length c) cv (stB all q))) := step_any w wr w.heap.size q all _ cv cl HR.out DK.out.bel (Nat.le_refl _) DK.out.rk hlt hbig
      have HOn : Hid ((stB all q).2.1 = 0 → q < (stB all q).2.2 ∧ (stB all q).2.2 ≤ all.length) := st_on all q hlt
      have HLe : Hid ((stB all q).2.2 ≤ all.length) := st_le all q hlt
      clear hX
      generalize stB all q = r at *
      obtain ⟨⟨d, z⟩, e, p2⟩ := r
      dsimp only at *
      have hp2 := HLe.out
      go_wp2_with fail
      refine HSt.out.mono ?_
      rintro e1 w1 ⟨v, cv', cl', rfl, rk1, own1, ap1, mk1⟩
      dsimp only at *
      have DK1 : Hid (Dk w w.heap.size (.slice a all.length c) w1 _ L p2 cv' cl') := DK.out.kept mk1 rk1
      have HAP : Hid (ApartC ((L ++ [(d, v, z)]).map Prod.snd)) := DK.out.apart own1
      have O1 : Hid (Own w.heap.size w1 v z) := own1.mono hs
      have HVC : Hid (v.ownBlock = none ∨ v.ownBlock ≠ cv'.ownBlock) := ap1
      obtain ⟨va, vc, hv⟩ := own_form own1
      generalize z.length = vl at hv
      subst hv
      have DK2 : Hid (Dk w w.heap.size (.slice a all.length c) (w1.alloc (.cells #[.bool d, .slice va vl vc] 61)) _ L p2 cv' cl') := DK1.out.below (below_box _ _)
      obtain ⟨d0, d1, d2⟩ := DK2.out.rk.box.c
      have hs1 := DK1.out.bel.size
      clear c0 c1 c2 HSt rk1 own1 ap1 mk1 DK
      by_cases he : e = 0
      · subst he
        have HX2 : Hid (dcB all g p2 (svS L ++ [(d, z)]) = X) := by have := HX.out; rwa [if_pos rfl] at this
        obtain ⟨ho1, ho2⟩ := HOn.out rfl
        have BXE : Hid (Bx2 (w1.alloc (.cells #[.bool d, .slice va vl vc] 61)) w1.heap.size 61 (.bool d) (.slice va vl vc)) := Bx2.new _ _ _ _
        have O2 : Hid (Own w.heap.size (w1.alloc (.cells #[.bool d, .slice va vl vc] 61)) (.slice va vl vc) z) := O1.out.below (below_box _ _)
        clear HX
        go_upto_region 7 with fail
        clear d0 d1 d2 hs1 DK1 O1
        generalize w1.alloc (.cells #[.bool d, .slice va vl vc] 61) = w2 at *
        generalize w1.heap.size = E2 at *
        have hs2 := DK2.out.bel.size
        have k0 := BXE.out.c0
        have k1 := BXE.out.c1
        go_wp2_with (at_builtin; refine wpList_append_own _ rfl _ _ 22 rfl w.heap.size 61 il (.agg #[.bool false, .slice none 0 0]) 2 32 Tryd.underlying22 hil hzl0 hzl1 hzl2 rfl (by decide) _ L.length (svC L) rfl (World.ownsRow.alloc DK2.out.oz.row _) _ 1 1 [.bool d, .slice va vl vc] rfl rfl (cell_two_new9 _ _ _ _) (by simp [Value.oneCell']) (by unfold maxLen; omega) (by omega) (by simp; omega) ?_; intro v7 w7 own7 gr7 hn7)
        go_roundg g
        case measure => omega
        case rel => exact ⟨p2, L ++ [(d, Value.slice va vl vc, z)], cv', cl', by omega, by omega, by simp; omega, by rw [svS_snoc]; exact HX2.out, DK2.out.app O2.out HAP.out HVC.out (below_box _ _) own7 gr7⟩
      · have HX2 : Hid (X = ([], e, p2)) := by have := HX.out; rw [if_neg he] at this; exact this.symm
        have heb : (e == 0) = false := beq_eq_false_iff_ne.2 he
        clear HX he
        go_wp2_with fail
        go_quiet (fail)
        go_wp2
        go_returns
        rw [HX2.out]
        exact ⟨_, rfl, ⟨[], OwnZ.nil _ _, rfl⟩, (DK2.out.below (below_drewN _ _)).bel⟩
    · have HX2 : Hid (X = (svS L, 0, 0)) := by show _ = _; rw [← hX, dc_end all _ _ _ (by omega)]
      obtain rfl : q = all.length := by omega
      clear hX
      go_wp2
      go_returns
      rw [HX2.out]
      exact ⟨_, rfl, ⟨L, DK.out.oz, rfl⟩, DK.out.bel⟩

end Go.Proofs.YtilcokpaeapmeaaDoor

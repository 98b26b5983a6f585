/-
  trail: the document's answer, how it lies in memory, what is asked of it.
  KEEP: set on app at below new trans refl start ap kept rd rds mono
-/
import Derived.Test.YtjcgfigbbbefcaaTrK
import Derived.Test.YtjcgfigbbbefcaaTrU
set_option linter.unusedSimpArgs false
set_option linter.unusedVariables false
namespace Go.Proofs.Ytjcgfigbbbefcaa
open Go Go.RowKit

def thr (R : List Pl) : List Value := R.flatMap fun p => [.int .i64 p.lit, .int .i64 p.lev, .int .i64 p.rea]
theorem thr_len (R : List Pl) : (thr R).length = R.length * 3 := by
  induction R with
  | nil => rfl
  | cons p R ih => simp only [thr, List.flatMap_cons, List.length_append, List.length_cons, List.length_nil] at ih ⊢; omega
theorem thr_append (R S : List Pl) : thr (R ++ S) = thr R ++ thr S := by simp [thr]
theorem thr_get {R : List Pl} {k : Nat} (h : k < R.length) : (thr R)[k * 3]? = some (.int .i64 R[k].lit) ∧ (thr R)[k * 3 + 1]? = some (.int .i64 R[k].lev) ∧ (thr R)[k * 3 + 2]? = some (.int .i64 R[k].rea) := by
  induction R generalizing k with
  | nil => simp at h
  | cons q R ih =>
    cases k with
    | zero => simp [thr]
    | succ k =>
      have e : (k + 1) * 3 = k * 3 + 1 + 1 + 1 := by omega
      have e1 : (k + 1) * 3 + 1 = k * 3 + 1 + 1 + 1 + 1 := by omega
      have e2 : (k + 1) * 3 + 2 = k * 3 + 2 + 1 + 1 + 1 := by omega
      obtain ⟨h1, h2, h3⟩ := ih (k := k) (by simpa using h)
      rw [e2, e1, e]
      simp only [thr, List.flatMap_cons, List.cons_append, List.nil_append, List.getElem?_cons_succ, List.getElem_cons_succ] at h1 h2 h3 ⊢
      exact ⟨h1, h2, h3⟩
def Bx3 (W : World) (D : Nat) (t : TypeId) (x y z : Value) : Prop := W.heap[D]? = some (.cells #[x, y, z] t (0, 0))
section
variable {W W' : World} {D : Nat} {t : TypeId} {x y z : Value}
theorem Bx3.lt (h : Bx3 W D t x y z) : D < W.heap.size := (Array.getElem?_eq_some_iff.1 h).1
theorem Bx3.c (h : Bx3 W D t x y z) : W.cell? ⟨D, 0, none⟩ = some x ∧ W.cell? ⟨D, 1, none⟩ = some y ∧ W.cell? ⟨D, 2, none⟩ = some z := by simp [World.cell?, show W.heap[D]? = _ from h]
theorem Bx3.fz (h : Bx3 W D t x y z) (o : Nat) : W.frozen? ⟨D, o, none⟩ = false := by simp [World.frozen?, show W.heap[D]? = _ from h]
theorem Bx3.kept {row : Option Nat} (h : Bx3 W D t x y z) (hg : W.grownBy W' row) (hne : some D ≠ row) : Bx3 W' D t x y z := (hg.block D h.lt hne).trans h
theorem Bx3.below (h : Bx3 W D t x y z) (hb : Below W.heap.size W W') : Bx3 W' D t x y z := (hb.block D h.lt).trans h
theorem Bx3.not_row {e : TypeId} (h : Bx3 W D t x y z) (hte : t ≠ e) {base size k : Nat} {v : Value} {xs : List Value} (hr : W.ownsRow base e size v k xs) : some D ≠ v.ownBlock := by
  rcases hr.2 with ⟨rfl, _⟩ | ⟨g, cap, cur, rfl, _, hg, _⟩
  · simp [Value.ownBlock]
  · intro e1
    have : D = g := by simpa [Value.ownBlock] using e1
    subst this
    rw [show W.heap[D]? = _ from h] at hg
    injection hg with hg; injection hg with _ h2; exact hte h2
end
/-- the document's trail -/
structure Rf (W : World) (b : Nat) (u : Value) (n : Nat) (R : List Pl) : Prop where
  box : Bx3 W b 80 (.int .i64 n) u (.int .i64 (now R))
  row : W.ownsRow 0 90 3 u R.length (thr R)
  ok : okT n R
  n : n ≤ 1048576
def rown (b : Nat) (u : Value) (k : Nat) : Prop := k = b ∨ some k = u.ownBlock
/-- what a step leaves as it was, outside of what is its own -/
structure Mg (w : World) (P : Nat → Prop) (w' : World) (P' : Nat → Prop) : Prop where
  os : w'.os = w.os
  tape : w'.tape = w.tape
  output : w'.output = w.output
  size : w.heap.size ≤ w'.heap.size
  block : ∀ k, k < w.heap.size → ¬ P k → w'.heap[k]? = w.heap[k]?
  new : ∀ k, P' k → P k ∨ w.heap.size ≤ k
theorem Mg.refl (w : World) (P : Nat → Prop) : Mg w P w P := ⟨rfl, rfl, rfl, Nat.le_refl _, fun _ _ _ => rfl, fun _ h => .inl h⟩
theorem Mg.below {w w' : World} {P : Nat → Prop} (h : Below w.heap.size w w') : Mg w P w' P := ⟨h.os, h.tape, h.output, h.size, fun k hk _ => h.block k hk, fun _ h => .inl h⟩
theorem Mg.of {w w' : World} {b : Nat} {s s' : Sl} (h : Mv w b s w' s') : Mg w (s.own b) w' (s'.own b) := ⟨h.os, h.tape, h.output, h.size, h.block, h.new⟩
theorem Mg.trans {w w1 w2 : World} {P P1 P2 : Nat → Prop} (h : Mg w P w1 P1) (k : Mg w1 P1 w2 P2) : Mg w P w2 P2 :=
  ⟨k.os.trans h.os, k.tape.trans h.tape, k.output.trans h.output, Nat.le_trans h.size k.size,
    fun i hi h1 => (k.block i (Nat.lt_of_lt_of_le hi h.size) (fun h2 => by
      rcases h.new i h2 with h3 | h3
      · exact h1 h3
      · omega)).trans (h.block i hi h1),
    fun i hi => by
      rcases k.new i hi with h1 | h1
      · exact h.new i h1
      · exact .inr (Nat.le_trans h.size h1)⟩
section
variable {W W' : World} {b : Nat} {u : Value} {n : Nat} {R : List Pl}
theorem Rf.lt (h : Rf W b u n R) : ∀ k, rown b u k → k < W.heap.size := by
  rintro k (rfl | hk)
  · exact h.box.lt
  · exact (h.row.lt k hk.symm).2
theorem Rf.kept (h : Rf W b u n R) (hk : ∀ k, rown b u k → W'.heap[k]? = W.heap[k]?) : Rf W' b u n R := ⟨(hk b (.inl rfl)).trans h.box, row_kept h.row fun k e => hk k (.inr e), h.ok, h.n⟩
theorem Rf.below (h : Rf W b u n R) (hb : Below W.heap.size W W') : Rf W' b u n R := h.kept fun k hk => hb.block k (h.lt k hk)
/-- the row and the level are others -/
theorem Rf.put {W1 : World} {v : Value} {S : List Pl} (h : Rf W b u n R) (hg : W.grownBy W1 u.ownBlock) (hn : v.ownBlock = u.ownBlock ∨ ∀ g, v.ownBlock = some g → W.heap.size ≤ g) (ho : W1.ownsRow 0 90 3 v S.length (thr S)) (hok : okT n S) :
    Rf ((W1.setCell ⟨b, 1, none⟩ v).setCell ⟨b, 2, none⟩ (.int .i64 (now S))) b v n S ∧ Mg W (rown b u) ((W1.setCell ⟨b, 1, none⟩ v).setCell ⟨b, 2, none⟩ (.int .i64 (now S))) (rown b v) := by
  have hb : Bx3 W1 b 80 (.int .i64 n) u (.int .i64 (now R)) := h.box.kept hg (h.box.not_row (by decide) h.row)
  have hb1 : Bx3 (W1.setCell ⟨b, 1, none⟩ v) b 80 (.int .i64 n) v (.int .i64 (now R)) := set_heap hb 1 v
  have hb2 : Bx3 ((W1.setCell ⟨b, 1, none⟩ v).setCell ⟨b, 2, none⟩ (.int .i64 (now S))) b 80 (.int .i64 n) v (.int .i64 (now S)) := set_heap hb1 2 _
  have g1 := grown_set W1 ⟨b, 1, none⟩ v
  have g2 := grown_set (W1.setCell ⟨b, 1, none⟩ v) ⟨b, 2, none⟩ (.int .i64 (now S))
  have hne : some b ≠ v.ownBlock := hb.not_row (by decide) ho
  have ho1 : (W1.setCell ⟨b, 1, none⟩ v).ownsRow 0 90 3 v S.length (thr S) := row_kept ho fun k hk => g1.block k ((ho.lt k hk.symm).2) (fun e => hne (by rw [← hk, e]))
  have ho2 := row_kept ho1 (w' := (W1.setCell ⟨b, 1, none⟩ v).setCell ⟨b, 2, none⟩ (.int .i64 (now S))) fun k hk => g2.block k ((ho1.lt k hk.symm).2) (fun e => hne (by rw [← hk, e]))
  refine ⟨⟨hb2, ho2, hok, h.n⟩, ⟨g2.os.trans (g1.os.trans hg.os), g2.tape.trans (g1.tape.trans hg.tape), g2.output.trans (g1.output.trans hg.output), Nat.le_trans hg.size (Nat.le_trans g1.size g2.size), fun i hi h1 => ?_, ?_⟩⟩
  · have hib : some i ≠ some b := fun e => h1 (.inl (by simpa using e))
    exact (g2.block i (Nat.lt_of_lt_of_le hi (Nat.le_trans hg.size g1.size)) hib).trans ((g1.block i (Nat.lt_of_lt_of_le hi hg.size) hib).trans (hg.block i hi (fun e1 => h1 (.inr e1))))
  · rintro k (rfl | hk)
    · exact .inl (.inl rfl)
    · rcases hn with e | e
      · exact .inl (.inr (by rw [← e]; exact hk))
      · exact .inr (e k hk.symm)
end

theorem rNew_any (z : Int) (w : World) (hz : 0 ≤ z ∧ z ≤ 1048576) :
    Calls Try.prog 10 #[.int .i64 z] w fun e w' => e = .returned (.tuple #[.pointer (some ⟨w.heap.size, 0, none⟩), .int .i64 0]) ∧ Rf w' w.heap.size (.slice none 0 0) z.toNat [] ∧ Below w.heap.size w w' := by
  obtain ⟨n, rfl⟩ : ∃ n : Nat, z = n := ⟨z.toNat, by omega⟩
  have HF : Hid (Rf (w.alloc (.cells #[.int .i64 n, .slice none 0 0, .int .i64 0] 80)) w.heap.size (.slice none 0 0) n []) := ⟨World.alloc_heap_new w _, World.ownsRow_nil _ _ _ _, okT.nil n, by omega⟩
  have HB : Hid (Below w.heap.size w (w.alloc (.cells #[.int .i64 n, .slice none 0 0, .int .i64 0] 80))) := below_box _ _
  clear hz
  rw [Int.toNat_natCast]
  have hn : n ≤ 1048576 := HF.out.n
  go_enter Try.func10, Try.ntmps10
  go_wp2
  go_ret2
  exact ⟨rfl, HF.out, HB.out⟩
theorem rNew_bad (z : Int) (w : World) (hz : ¬ (0 ≤ z ∧ z ≤ 1048576)) :
    Calls Try.prog 10 #[.int .i64 z] w fun e w' => e = .returned (.tuple #[.pointer none, .int .i64 2]) ∧ w' = w := by
  by_cases h : z < 0
  · go_enter Try.func10, Try.ntmps10
    go_wp2
    go_ret2
    exact ⟨rfl, rfl⟩
  · have h1 : 1048576 < z := by omega
    clear hz
    go_enter Try.func10, Try.ntmps10
    go_wp2
    go_ret2
    exact ⟨rfl, rfl⟩
theorem rOwn_any (b : Nat) (u : Value) (n : Nat) (R : List Pl) (l : Int) (w : World) (h : Rf w b u n R) :
    Calls Try.prog 53 #[.pointer (some ⟨b, 0, none⟩), .int .i64 l] w fun e w' => e = .returned (.bool (litN n l)) ∧ w' = w := by
  have c0 := h.box.c.1
  have hn := h.n
  clear h
  rcases fmd_cases l with ⟨hf, h0, h1, h2⟩ | ⟨hf, h0⟩
  · by_cases h3 : l ≤ n
    · have HE : Hid (litN n l = decide (-l ≤ (n : Int))) := by show _ = _; unfold litN; rw [decide_eq_decide]; omega
      have HF : Hid (fmd l = true) := hf
      clear hf
      go_enter Try.func53, Try.ntmps53
      go_wp2_with (go_at_call 60; refine (refFormed_any _ _).mono ?_; rw [HF.out]; rintro e w' ⟨rfl, rfl⟩)
      go_ret
      exact ⟨by rw [HE.out]; rfl, rfl⟩
    · have HE : Hid (litN n l = false) := by show _ = _; unfold litN; simp; omega
      have HF : Hid (fmd l = true) := hf
      clear hf
      go_enter Try.func53, Try.ntmps53
      go_wp2_with (go_at_call 60; refine (refFormed_any _ _).mono ?_; rw [HF.out]; rintro e w' ⟨rfl, rfl⟩)
      go_ret
      exact ⟨by rw [HE.out]; rfl, rfl⟩
  · have HE : Hid (litN n l = false) := by show _ = _; unfold litN; simp; omega
    have HF : Hid (fmd l = false) := hf
    clear hf h0
    go_enter Try.func53, Try.ntmps53
    go_wp2_with (go_at_call 60; refine (refFormed_any _ _).mono ?_; rw [HF.out]; rintro e w' ⟨rfl, rfl⟩)
    go_ret
    exact ⟨by rw [HE.out]; rfl, rfl⟩
theorem fnd_at {R : List Pl} {v k : Nat} (hk : k < R.length) (h0 : fnd (R.take k) v = none) (h1 : vr R[k] = v) : fnd R v = some R[k] := by
  have e : R.take (k + 1) ++ R.drop (k + 1) = R := List.take_append_drop _ _
  unfold fnd at h0 ⊢
  conv => lhs; rw [← e]
  rw [List.find?_append, List.take_succ_eq_append_getElem hk, List.find?_append, h0]
  simp [h1]
theorem fnd_more {R : List Pl} {v k : Nat} (hk : k < R.length) (h0 : fnd (R.take k) v = none) (h1 : vr R[k] ≠ v) : fnd (R.take (k + 1)) v = none := by
  unfold fnd at h0 ⊢
  rw [List.take_succ_eq_append_getElem hk, List.find?_append, h0]
  simp [h1]
def AtS (R : List Pl) (v : Nat) (z : Int) : Prop := (z = -1 ∧ fnd R v = none) ∨ ∃ i, ∃ hi : i < R.length, z = (i : Int) ∧ fnd R v = some R[i]
theorem rAt_any (b : Nat) (u : Value) (n : Nat) (R : List Pl) (l : Int) (w : World) (h : Rf w b u n R) (hl : litN n l = true) :
    Calls Try.prog 54 #[.pointer (some ⟨b, 0, none⟩), .int .i64 l] w fun e w' => ∃ z, e = .returned (.int .i64 z) ∧ AtS R l.natAbs z ∧ w' = w := by
  have c1 := h.box.c.2.1
  have hn := h.n
  have hlen := h.ok.len
  have hl0 := of_decide_eq_true hl
  have hb1 : -1048576 ≤ l := by omega
  have hb2 : l ≤ 1048576 := by omega
  obtain ⟨a, c, rfl⟩ := row_form' h.row
  have HC : Hid (∀ k, (hk : k < R.length) → ∃ g, a = some ⟨g, 0, none⟩ ∧ w.cell? ⟨g, k * 3, none⟩ = some (.int .i64 R[k].lit) ∧ vr R[k] ≤ n) := by
    intro k hk
    obtain ⟨g, c', e, _⟩ := row_some h.row (by omega)
    injection e with e1 _ _
    subst e1
    exact ⟨g, rfl, row_cell h.row (thr_get hk).1, (h.ok.fit R[k] (List.getElem_mem hk)).2⟩
  clear h hl hl0
  go_enter Try.func54, Try.ntmps54
  go_wp2
  go_loopg [5] R.length (fun g i' wr => ∃ k : Nat, k + g = R.length ∧ i' = .int .i64 k ∧ fnd (R.take k) l.natAbs = none ∧ wr = w)
  case atStart => exact ⟨0, by omega, rfl, by simp [fnd], rfl⟩
  case round =>
    obtain ⟨k, hk, rfl, hnf, rfl⟩ := hrel
    have HK : Hid (k + gk = R.length) := hk
    by_cases hlt : k < R.length
    · obtain ⟨g, rfl, d0, hv⟩ := HC.out k hlt
      have HA : Hid (vr R[k] = l.natAbs → fnd R l.natAbs = some R[k]) := fnd_at hlt hnf
      have HM : Hid (vr R[k] ≠ l.natAbs → fnd (R.take (k + 1)) l.natAbs = none) := fnd_more hlt hnf
      have HVr : Hid (vr R[k] = R[k].lit.natAbs) := rfl
      have hv2 : R[k].lit.natAbs ≤ 1048576 := by unfold vr at hv; omega
      clear hk hnf hv
      by_cases h1 : R[k].lit = l
      · have HE : Hid (fnd R l.natAbs = some R[k]) := HA.out (by rw [HVr.out, h1])
        rw [h1] at d0
        clear hv2 h1
        go_wp2
        go_ret
        exact ⟨_, rfl, .inr ⟨k, hlt, rfl, HE.out⟩, rfl⟩
      · by_cases h2 : R[k].lit = -l
        · have HE : Hid (fnd R l.natAbs = some R[k]) := HA.out (by rw [HVr.out, h2]; omega)
          rw [h2] at d0 h1
          have h3 : (-l == l) = false := by simp [h1]
          clear hv2 h2
          go_wp2
          go_ret
          exact ⟨_, rfl, .inr ⟨k, hlt, rfl, HE.out⟩, rfl⟩
        · have HE : Hid (fnd (R.take (k + 1)) l.natAbs = none) := HM.out (by rw [HVr.out]; omega)
          generalize R[k].lit = z at *
          have h3 : (z == l) = false := by simp [h1]
          have h4 : (z == -l) = false := by simp [h2]
          go_wp2
          go_roundg (gk - 1)
          case measure => have := HK.out; omega
          case rel => exact ⟨k + 1, by have := HK.out; omega, by go_num, HE.out, rfl⟩
    · obtain rfl : k = R.length := by omega
      rw [List.take_length] at hnf
      have HE : Hid (fnd R l.natAbs = none) := hnf
      clear hk HK hnf
      go_wp2
      go_ret
      exact ⟨_, rfl, .inl ⟨rfl, HE.out⟩, rfl⟩
end Go.Proofs.Ytjcgfigbbbefcaa

/-
  learn: put (the closure of resolved).
  KEEP: len below nil form rd mono one more grown lt size cell some none of ofNat add out step row get at mk new made look put del kept drew alloc has same other map rde take lit lev lstB pre ws cells bnd on start app set box bel rz tidy ms reason
-/
import Derived.Test.YtkchabdlpeifjaaLnI
set_option linter.unusedSimpArgs false
set_option linter.unusedVariables false
namespace Go.Proofs.Ytkchabdlpeifjaa
open Go Go.RowKit
/-- a box of one cell -/
def Bo1 (W : World) (D : Nat) (T : TypeId) (v : Value) : Prop := W.heap[D]? = some (.cells #[v] T (0, 0))
section
variable {W W' : World} {D : Nat} {T : TypeId} {v : Value}
theorem Bo1.lt (h : Bo1 W D T v) : D < W.heap.size := (Array.getElem?_eq_some_iff.1 h).1
theorem Bo1.c (h : Bo1 W D T v) : W.cell? ⟨D, 0, none⟩ = some v := by simp [World.cell?, show W.heap[D]? = _ from h]
theorem Bo1.f (h : Bo1 W D T v) : W.frozen? ⟨D, 0, none⟩ = false := by simp [World.frozen?, show W.heap[D]? = _ from h]
theorem Bo1.new (W : World) (T : TypeId) (v : Value) : Bo1 (W.alloc (.cells #[v] T)) W.heap.size T v := World.alloc_heap_new W _
theorem Bo1.kept {row : Option Nat} (h : Bo1 W D T v) (hg : W.grownBy W' row) (hne : some D ≠ row) : Bo1 W' D T v := (hg.block D h.lt hne).trans h
theorem Bo1.below (h : Bo1 W D T v) (hb : Below W.heap.size W W') : Bo1 W' D T v := (hb.block D h.lt).trans h
theorem Bo1.set (h : Bo1 W D T v) (u : Value) : Bo1 (W.setCell ⟨D, 0, none⟩ u) D T u := by
  obtain ⟨hlt, hk⟩ := Array.getElem?_eq_some_iff.1 h
  show (W.heap.modify D _)[D]? = _
  rw [Array.getElem?_eq_getElem (by rw [Array.size_modify]; exact hlt), Array.getElem_modify_self, hk]
  rfl
end
/-- the state of resolved: X the reading's box, X + 1 the level's, X + 2 the set, X + 3 its box, X + 4 how many are left -/
structure Rv (w0 W : World) (X : Nat) (a : Option Addr) (t : List Ent) (c g : Nat) (L : Int) (n : Nat) (T : Int → Bool) : Prop where
  rz0 : Rz w0 a t c g t
  eX : w0.heap.size = X
  bel : Below X w0 W
  box : Bx2 W X 45 (.slice a t.length c) (.map (some g))
  lvb : Bo1 W (X + 1) 3 (.int .i64 L)
  ms : ∃ s, Ms W (X + 2) n s T
  stb : Bo1 W (X + 3) 57 (.map (some (X + 2)))
  lf : Bo1 W (X + 4) 3 (.int .i64 (cn t L T t.length : Int))
section
variable {w0 W W' : World} {X : Nat} {a : Option Addr} {t : List Ent} {c g : Nat} {L : Int} {n : Nat} {T : Int → Bool}
theorem Rv.rz (h : Rv w0 W X a t c g L n T) : Rz W a t c g t := h.rz0.below (by rw [h.eX]; exact h.bel)
theorem Rv.below (h : Rv w0 W X a t c g L n T) (hb : Below W.heap.size W W') : Rv w0 W' X a t c g L n T := by
  obtain ⟨s, hs⟩ := h.ms
  exact ⟨h.rz0, h.eX, h.bel.trans (hb.mono (Nat.le_of_lt h.box.lt)), h.box.below hb, h.lvb.below hb, ⟨s, hs.below hb⟩, h.stb.below hb, h.lf.below hb⟩
theorem Ms.mono {W : World} {g n n' s : Nat} {T : Int → Bool} (h : Ms W g n s T) (hn : n ≤ n') : Ms W g n' s T := by
  obtain ⟨D, h1, h2⟩ := h
  exact ⟨D, h1.mono hn, h2⟩
theorem Rv.wide (h : Rv w0 W X a t c g L n T) {n' : Nat} (hn : n ≤ n') : Rv w0 W X a t c g L n' T := by
  obtain ⟨s, hs⟩ := h.ms
  exact ⟨h.rz0, h.eX, h.bel, h.box, h.lvb, ⟨s, hs.mono hn⟩, h.stb, h.lf⟩
theorem grown_drewN {a b : World} {row : Option Nat} (h : a.grownBy b row) (n : Nat) : a.grownBy (b.drewN n) row := ⟨h.os, h.tape, h.output, h.size, h.block⟩
/-- one place more in the set; the count is to follow -/
theorem Rv.put (h : Rv w0 W X a t c g L n T) (p : Nat) (hp : p < t.length) (hn : n < maxLen) :
    ∃ w', (Instr.mapUpdate 57 (.map (some (X + 2))) (.int .i64 (p : Int)) (.agg #[])).run Try.prog W = .ok () w' ∧ W.grownBy w' (some (X + 2)) ∧ (∃ s, Ms w' (X + 2) (n + 1) s (inS T (p : Int))) := by
  obtain ⟨s, hs⟩ := h.ms
  have := h.rz.bnd
  obtain ⟨w', r1, r2, r3⟩ := hs.put Try.underlying57 (x := (p : Int)) (by omega) (by omega) hn
  exact ⟨w', r1, r3, _, r2⟩
theorem Rv.turned (h : Rv w0 W X a t c g L n T) (hg : W.grownBy W' (some (X + 2))) {n' : Nat} {T' : Int → Bool} (hm : ∃ s, Ms W' (X + 2) n' s T') (hc : cn t L T' t.length = cn t L T t.length) : Rv w0 W' X a t c g L n' T' :=
  ⟨h.rz0, h.eX, h.bel.grown hg (Nat.le_of_lt h.box.lt) (fun k hk => by cases hk; omega), h.box.kept hg (by simp), h.lvb.kept hg (by simp), hm, h.stb.kept hg (by simp), by rw [hc]; exact h.lf.kept hg (by simp)⟩
/-- the set has turned, and the count with it -/
theorem Rv.count (h : Rv w0 W X a t c g L n T) (hg : W.grownBy W' (some (X + 2))) {n' : Nat} {T' : Int → Bool} (hm : ∃ s, Ms W' (X + 2) n' s T') : Rv w0 (W'.setCell ⟨X + 4, 0, none⟩ (.int .i64 (cn t L T' t.length : Int))) X a t c g L n' T' := by
  have h1 : Below X w0 W' := h.bel.grown hg (Nat.le_of_lt h.box.lt) (fun k hk => by cases hk; omega)
  have g2 := grown_set W' ⟨X + 4, 0, none⟩ (.int .i64 (cn t L T' t.length : Int))
  obtain ⟨s, hs⟩ := hm
  have h5 := h.lf.kept hg (by simp)
  refine ⟨h.rz0, h.eX, below_set15 h1 (by omega) (Nat.le_of_lt (h.box.kept hg (by simp)).lt), (h.box.kept hg (by simp)).kept g2 (by simp), (h.lvb.kept hg (by simp)).kept g2 (by simp), ⟨s, hs.kept (g2.block _ hs.lt (by simp))⟩, (h.stb.kept hg (by simp)).kept g2 (by simp), h5.set _⟩
end
set_option maxHeartbeats 3200000 in
set_option maxRecDepth 100000 in
theorem put_any (w0 W : World) (X : Nat) (a : Option Addr) (t : List Ent) (c g : Nat) (L : Int) (n : Nat) (T : Int → Bool) (x : Int) (h : Rv w0 W X a t c g L n T) (hx : isF t x = true) (hn : n < 100000000000000) :
    Calls Try.prog 52 #[.int .i64 x, .pointer (some ⟨X, 0, none⟩), .pointer (some ⟨X + 3, 0, none⟩), .pointer (some ⟨X + 1, 0, none⟩), .pointer (some ⟨X + 4, 0, none⟩)] W fun e w' => e = .returned (.tuple #[]) ∧ Rv w0 w' X a t c g L (n + 1) (inS T (plN t x : Int)) := by
  obtain ⟨h1, h2, h3, h4, h5⟩ := h.rz.ws.isF_at hx
  have HP : Hid (Calls Try.prog 42 #[rV a t.length c g, .int .i64 x] W fun e w' => e = .returned (.int .i64 (plN t x : Int)) ∧ Below W.heap.size W w') := place_any a t t c g x W h.rz
  have HH : Hid (Rv w0 W X a t c g L n T) := h
  have hbn := h.rz.bnd
  have b0 := h.box.c0
  have b1 := h.box.c1
  have b2 := h.stb.c
  clear h1 h3 h4 h5 h hx
  generalize plN t x = p at *
  go_enter Try.func52, Try.ntmps52
  go_upto_region 1 with (go_at_call 42; refine HP.out.mono ?_; rintro e w1 ⟨rfl, bE⟩; have H1 : Hid (Rv w0 w1 X a t c g L n T) := HH.out.below bE; clear bE)
  obtain ⟨s, hms⟩ := H1.out.ms
  have hlk := hms.look Try.underlying57 (x := (p : Int)) (by omega) (by omega)
  have b3 := H1.out.stb.c
  have H2 : Hid (Rv w0 (w1.alloc (.cells #[] 69)) X a t c g L n T) := H1.out.below (below_box _ _)
  clear hms b0 b1 b2 HH HP
  cases hT : T (p : Int)
  · rw [hT] at hlk
    obtain ⟨w3, hrun, hg3, hm3⟩ := H2.out.put p h2 (by unfold maxLen; omega)
    have hcn : cn t L (inS T (p : Int)) t.length = cn t L T t.length + if lvP t p == L then 1 else 0 := cn_in t L T p hT t.length h2
    have hcl := cn_le t L T t.length
    have b5 := H2.out.stb.c
    have H3 : Hid (Rv w0 (w1.alloc (.cells #[] 69)) X a t c g L n T ∧ (w1.alloc (.cells #[] 69)).grownBy w3 (some (X + 2)) ∧ (∃ s, Ms w3 (X + 2) (n + 1) s (inS T (p : Int)))) := ⟨H2.out, hg3, hm3⟩
    have hB2 := Nat.le_of_lt H2.out.box.lt
    have HRz3 : Rz w3 a t c g t := H2.out.rz0.below (by rw [H2.out.eX]; exact H2.out.bel.grown hg3 hB2 (fun k hk => by cases hk; omega))
    obtain ⟨b, off, u, rfl, hbl, c0, c1, c2, _⟩ := HRz3.cells h2
    have d0 := (H2.out.box.kept hg3 (by simp)).c0
    have d1 := (H2.out.lvb.kept hg3 (by simp)).c
    have d2 := (H2.out.lf.kept hg3 (by simp)).c
    have d3 := (H2.out.lf.kept hg3 (by simp)).f
    have d4 := (H2.out.lf.kept hg3 (by simp)).lt
    have hlv : (t.getD p e0).2.1 = lvP t p := rfl
    rw [hlv] at c1
    have HCn : Hid (cn t L (inS T (p : Int)) t.length = cn t L T t.length + if lvP t p == L then 1 else 0) := hcn
    obtain ⟨m, hm⟩ : ∃ m, cn t L T t.length = m := ⟨_, rfl⟩
    have HM : Hid (cn t L T t.length = m) := hm
    rw [hm] at d2 hcl
    clear hg3 hm3 c0 c2 HRz3 hlv H1 H2 hcn hm hT hB2
    generalize hl : lvP t p = l at *
    have HL : Hid (lvP t p = l) := hl
    clear hl
    have hwr : IntKind.i64.wrap ((m : Int) + 1) = (m : Int) + 1 := by rw [IntKind.wrap_i64]; omega
    go_upto_region 4 with fail
    go_quiet (fail)
    by_cases hL : l = L
    · have hLb : (l == L) = true := by simpa using hL
      go_wp2_with fail
      go_end0
      refine ⟨rfl, ?_⟩
      obtain ⟨h31, h32, s3, h33⟩ := H3.out
      have q := h31.count (grown_drewN h32 nq) (n' := n + 1) (T' := inS T (p : Int)) ⟨s3, h33.kept rfl⟩
      have e1 := HCn.out
      rw [hLb, HM.out] at e1
      rw [e1] at q
      exact q
    · have hLb : (l == L) = false := by simpa using hL
      go_wp2_with fail
      go_end0
      refine ⟨rfl, ?_⟩
      obtain ⟨h31, h32, s3, h33⟩ := H3.out
      have e1 := HCn.out
      rw [hLb] at e1
      exact h31.turned (grown_drewN h32 nq) ⟨s3, h33.kept rfl⟩ e1
  · rw [hT] at hlk
    have HE : Hid (inS T (p : Int) = T) := inS_self hT
    go_wp2_with fail
    refine bodyPost_ret (results_none rfl _ _ _) rfl ?_
    refine ⟨rfl, ?_⟩
    rw [HE.out]
    exact H2.out.wide (by omega)
end Go.Proofs.Ytkchabdlpeifjaa

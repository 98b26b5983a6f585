/-
  heat: how a heap lies in memory.
  KEEP: set on app at below new trans refl start kept mono lt add none own nil put len pos other cell ty blt fz box k p r pr a0 a1 a2 c0 c1 c2 hb setK setP setR unique grown step fin
-/
import Derived.Test.YtbfjhgiifmhccaaTrW
import Derived.Test.YtbfjhgiifmhccaaHtG
import Derived.Test.YtbfjhgiifmhccaaHtP
import Derived.WalkLawsBesides
import Derived.Laws.FloatArith
set_option linter.unusedSimpArgs false
set_option linter.unusedVariables false
namespace Go.Proofs.Ytbfjhgiifmhccaa
open Go Go.RowKit

/-- what a step leaves: all but a set of blocks -/
structure Mf (w : World) (P : Nat → Prop) (w' : World) (P' : Nat → Prop) : Prop where
  os : w'.os = w.os
  tape : w'.tape = w.tape
  output : w'.output = w.output
  size : w.heap.size ≤ w'.heap.size
  block : ∀ k, k < w.heap.size → ¬ P k → w'.heap[k]? = w.heap[k]?
  new : ∀ k, P' k → P k ∨ w.heap.size ≤ k
theorem Mf.refl (w : World) (P : Nat → Prop) : Mf w P w P := ⟨rfl, rfl, rfl, Nat.le_refl _, fun _ _ _ => rfl, fun _ h => .inl h⟩
theorem Mf.below {w w' : World} {P : Nat → Prop} (h : Below w.heap.size w w') : Mf w P w' P := ⟨h.os, h.tape, h.output, h.size, fun k hk _ => h.block k hk, fun _ h => .inl h⟩
theorem Mf.trans {w w1 w2 : World} {P P1 P2 : Nat → Prop} (h : Mf w P w1 P1) (k : Mf w1 P1 w2 P2) : Mf w P w2 P2 :=
  ⟨k.os.trans h.os, k.tape.trans h.tape, k.output.trans h.output, Nat.le_trans h.size k.size,
    fun i hi h1 => (k.block i (Nat.lt_of_lt_of_le hi h.size) (fun h2 => by
      rcases h.new i h2 with h3 | h3
      · exact h1 h3
      · omega)).trans (h.block i hi h1),
    fun i hi => by
      rcases k.new i hi with h1 | h1
      · exact h.new i h1
      · exact .inr (Nat.le_trans h.size h1)⟩
theorem Mf.grown {W W' : World} {row : Option Nat} {P : Nat → Prop} (hg : W.grownBy W' row) (h : ∀ g, row = some g → P g) : Mf W P W' P :=
  ⟨hg.os, hg.tape, hg.output, hg.size, fun k hk hn => hg.block k hk fun e => hn (h k e.symm), fun _ h => .inl h⟩
theorem Mf.bel {w0 w w' : World} {P P' : Nat → Prop} (h : Below w0.heap.size w0 w) (hp : ∀ k, P k → w0.heap.size ≤ k) (hm : Mf w P w' P') : Below w0.heap.size w0 w' :=
  h.trans ⟨hm.os, hm.tape, hm.output, hm.size, fun k hk => hm.block k (Nat.lt_of_lt_of_le hk h.size) (fun ho => by have := hp k ho; omega)⟩

def Tf (W : World) (g : Nat) (e : TypeId) : Prop := ∃ c f, W.heap[g]? = some (.cells c e f)
theorem Tf.unique {W : World} {g : Nat} {e e' : TypeId} (h : Tf W g e) (h' : Tf W g e') : e = e' := by
  obtain ⟨c, f, h⟩ := h
  obtain ⟨c', f', h'⟩ := h'
  rw [h] at h'
  injection h' with h'
  injection h'
theorem row_tf {W : World} {B e s n : Nat} {v : Value} {xs : List Value} (h : W.ownsRow B e s v n xs) {k : Nat} (hk : some k = v.ownBlock) : Tf W k e := by
  rcases h.2 with ⟨rfl, _⟩ | ⟨g, cap, cur, rfl, _, hg, _⟩
  · simp [Value.ownBlock] at hk
  · have : k = g := by simpa [Value.ownBlock] using hk
    subst this
    exact ⟨_, _, hg⟩
theorem row_oth {W W' : World} {row : Option Nat} {B e e' s n : Nat} {v : Value} {xs : List Value} (h : W.ownsRow B e' s v n xs) (hg : W.grownBy W' row) (ht : ∀ g, row = some g → Tf W g e) (hne : e' ≠ e) : W'.ownsRow B e' s v n xs :=
  row_kept h fun k hk => hg.block k (h.lt k hk.symm).2 fun e1 => hne ((row_tf h hk).unique (ht k e1.symm))
theorem row_ofs {W W' : World} {row : Option Nat} {B e sz m : Nat} {v : Value} {xs : List Value} (h : W.ownsRow B e sz v m xs) (hg : W.grownBy W' row) (hne : ∀ k, some k = v.ownBlock → some k ≠ row) : W'.ownsRow B e sz v m xs :=
  row_kept h fun k hk => hg.block k (h.lt k hk.symm).2 fun e1 => hne k hk e1
theorem box_oth {W W' : World} {b : Nat} {row : Option Nat} {e : TypeId} {o : Array Value} {t : TypeId} {f : Nat × Nat} (h : W.heap[b]? = some (.cells o t f)) (hg : W.grownBy W' row) (ht : ∀ g, row = some g → Tf W g e) (hne : t ≠ e) : W'.heap[b]? = some (.cells o t f) :=
  (hg.block b (Array.getElem?_eq_some_iff.1 h).1 (fun e1 => hne ((show Tf W b t from ⟨_, _, h⟩).unique (ht b e1.symm)))).trans h
theorem set_oth {W : World} {B b j : Nat} {v : Value} {o : Array Value} {t : TypeId} {f : Nat × Nat} (hb : W.heap[b]? = some (.cells o t f)) {e sz m : Nat} {u : Value} {xs : List Value} (h : W.ownsRow B e sz u m xs) (hne : e ≠ t) : (W.setCell ⟨b, j, none⟩ v).ownsRow B e sz u m xs :=
  row_oth h (grown_set W ⟨b, j, none⟩ v) (fun g e1 => by injection e1 with e1; subst e1; exact ⟨_, _, hb⟩) hne

def f64s (K : List Nat) : List Value := K.map (Value.float .f64)
def i32n (R : List Nat) : List Value := R.map fun (x : Nat) => Value.int .i32 (x : Int)
theorem f64s_at {K : List Nat} {k : Nat} (h : k < K.length) : (f64s K)[k]? = some (.float .f64 (gt K k)) := by unfold f64s; rw [List.getElem?_map, gt_at h]; rfl
theorem i32n_at {K : List Nat} {k : Nat} (h : k < K.length) : (i32n K)[k]? = some (.int .i32 (gt K k : Nat)) := by unfold i32n; rw [List.getElem?_map, gt_at h]; rfl
theorem f64s_set (K : List Nat) (k x : Nat) : f64s (K.set k x) = (f64s K).set k (.float .f64 x) := by unfold f64s; rw [List.map_set]
theorem i32n_set (K : List Nat) (k x : Nat) : i32n (K.set k x) = (i32n K).set k (.int .i32 (x : Int)) := by unfold i32n; rw [List.map_set]
theorem run_store_float (P : Program) (w : World) (a : Addr) (m : Mode) (k : FloatKind) (x : Nat) : (store a (.float k x) m).run P w = stored P w a (.float k x) m := run_store P w a _ m rfl

/-- a heap's box: its cells, their type, where the heap begins in it; and the three rows -/
structure Hs where
  A : Array Value
  t : TypeId
  o : Nat
  K : Value
  P : Value
  R : Value
def Hs.own (s : Hs) (b k : Nat) : Prop := k = b ∨ some k = s.K.ownBlock ∨ some k = s.P.ownBlock ∨ some k = s.R.ownBlock
structure Hz (B : Nat) (W : World) (b : Nat) (s : Hs) (K P R : List Nat) : Prop where
  box : W.heap[b]? = some (.cells s.A s.t (0, 0))
  hb : B ≤ b
  a0 : s.A[s.o]? = some s.K
  a1 : s.A[s.o + 1]? = some s.P
  a2 : s.A[s.o + 2]? = some s.R
  k : W.ownsRow B 23 1 s.K K.length (f64s K)
  p : W.ownsRow B 21 1 s.P P.length (i32n P)
  r : W.ownsRow B 21 1 s.R R.length (i32n R)
  pr : ∀ g, some g = s.P.ownBlock → some g ≠ s.R.ownBlock
  t1 : s.t ≠ 23
  t2 : s.t ≠ 21
section
variable {B b : Nat} {W W' : World} {s : Hs} {K P R : List Nat}
theorem Hz.blt (h : Hz B W b s K P R) : b < W.heap.size := (Array.getElem?_eq_some_iff.1 h.box).1
theorem Hz.lt (h : Hz B W b s K P R) : ∀ k, s.own b k → B ≤ k ∧ k < W.heap.size := by
  rintro k (rfl | hk | hk | hk)
  · exact ⟨h.hb, h.blt⟩
  · exact h.k.lt k hk.symm
  · exact h.p.lt k hk.symm
  · exact h.r.lt k hk.symm
theorem Hz.kept (h : Hz B W b s K P R) (hk : ∀ k, s.own b k → W'.heap[k]? = W.heap[k]?) : Hz B W' b s K P R :=
  ⟨(hk b (.inl rfl)).trans h.box, h.hb, h.a0, h.a1, h.a2, row_kept h.k fun k e => hk k (.inr (.inl e)), row_kept h.p fun k e => hk k (.inr (.inr (.inl e))), row_kept h.r fun k e => hk k (.inr (.inr (.inr e))), h.pr, h.t1, h.t2⟩
theorem Hz.below (h : Hz B W b s K P R) (hb : Below W.heap.size W W') : Hz B W' b s K P R := h.kept fun k hk => hb.block k (h.lt k hk).2
theorem Hz.other {Q Q' : Nat → Prop} (h : Hz B W b s K P R) (hm : Mf W Q W' Q') (hd : ∀ k, s.own b k → ¬ Q k) : Hz B W' b s K P R := h.kept fun k hk => hm.block k (h.lt k hk).2 (hd k hk)
theorem Hz.c0 (h : Hz B W b s K P R) : W.cell? ⟨b, s.o, none⟩ = some s.K := by simp [World.cell?, h.box]; simpa using h.a0
theorem Hz.c1 (h : Hz B W b s K P R) : W.cell? ⟨b, s.o + 1, none⟩ = some s.P := by simp [World.cell?, h.box]; simpa using h.a1
theorem Hz.c2 (h : Hz B W b s K P R) : W.cell? ⟨b, s.o + 2, none⟩ = some s.R := by simp [World.cell?, h.box]; simpa using h.a2
theorem Hz.fz (h : Hz B W b s K P R) (j : Nat) : W.frozen? ⟨b, j, none⟩ = false := by simp [World.frozen?, h.box]
theorem Hz.setK (h : Hz B W b s K P R) {g cap k : Nat} (hv : s.K = .slice (some ⟨g, 0, none⟩) K.length cap) (hk : k < K.length) (z : Nat) : Hz B (W.setCell ⟨g, k, none⟩ (.float .f64 z)) b s (K.set k z) P R ∧ Mf W (s.own b) (W.setCell ⟨g, k, none⟩ (.float .f64 z)) (s.own b) := by
  have hg := grown_set W ⟨g, k, none⟩ (.float .f64 z)
  have ht : ∀ x, some g = some x → Tf W x 23 := fun x e => row_tf h.k (by rw [hv, ← e]; rfl)
  refine ⟨⟨box_oth h.box hg ht h.t1, h.hb, h.a0, h.a1, h.a2, ?_, row_oth h.p hg ht (by decide), row_oth h.r hg ht (by decide), h.pr, h.t1, h.t2⟩, Mf.grown hg fun x e => .inr (.inl (by rw [hv, ← e]; rfl))⟩
  have h1 := h.k
  rw [hv] at h1 ⊢
  rw [f64s_set, List.length_set]
  exact own_cell h1 (by omega) _
theorem Hz.setP (h : Hz B W b s K P R) {g cap k : Nat} (hv : s.P = .slice (some ⟨g, 0, none⟩) P.length cap) (hk : k < P.length) (z : Nat) : Hz B (W.setCell ⟨g, k, none⟩ (.int .i32 (z : Int))) b s K (P.set k z) R ∧ Mf W (s.own b) (W.setCell ⟨g, k, none⟩ (.int .i32 (z : Int))) (s.own b) := by
  have hg := grown_set W ⟨g, k, none⟩ (.int .i32 (z : Int))
  have ht : ∀ x, some g = some x → Tf W x 21 := fun x e => row_tf h.p (by rw [hv, ← e]; rfl)
  have hgP : some g = s.P.ownBlock := by rw [hv]; rfl
  refine ⟨⟨box_oth h.box hg ht h.t2, h.hb, h.a0, h.a1, h.a2, row_oth h.k hg ht (by decide), ?_, row_ofs h.r hg (fun q hq e1 => h.pr q (by rw [e1]; exact hgP) hq), h.pr, h.t1, h.t2⟩, Mf.grown hg fun x e => .inr (.inr (.inl (by rw [hv, ← e]; rfl)))⟩
  have h1 := h.p
  rw [hv] at h1 ⊢
  rw [i32n_set, List.length_set]
  exact own_cell h1 (by omega) _
theorem Hz.setR (h : Hz B W b s K P R) {g cap k : Nat} (hv : s.R = .slice (some ⟨g, 0, none⟩) R.length cap) (hk : k < R.length) (z : Nat) : Hz B (W.setCell ⟨g, k, none⟩ (.int .i32 (z : Int))) b s K P (R.set k z) ∧ Mf W (s.own b) (W.setCell ⟨g, k, none⟩ (.int .i32 (z : Int))) (s.own b) := by
  have hg := grown_set W ⟨g, k, none⟩ (.int .i32 (z : Int))
  have ht : ∀ x, some g = some x → Tf W x 21 := fun x e => row_tf h.r (by rw [hv, ← e]; rfl)
  have hgR : some g = s.R.ownBlock := by rw [hv]; rfl
  refine ⟨⟨box_oth h.box hg ht h.t2, h.hb, h.a0, h.a1, h.a2, row_oth h.k hg ht (by decide), row_ofs h.p hg (fun q hq e1 => h.pr q hq (by rw [e1]; exact hgR)), ?_, h.pr, h.t1, h.t2⟩, Mf.grown hg fun x e => .inr (.inr (.inr (by rw [hv, ← e]; rfl)))⟩
  have h1 := h.r
  rw [hv] at h1 ⊢
  rw [i32n_set, List.length_set]
  exact own_cell h1 (by omega) _

/-- what a step of the heap leaves -/
def HzS (B b : Nat) (s : Hs) (K P R : List Nat) (w w' : World) : Prop := Hz B w' b s K P R ∧ Mf w (s.own b) w' (s.own b)
theorem wr32 {z : Nat} (h : z ≤ 2147483647) : IntKind.i64.wrap (z : Int) = (z : Int) := by rw [IntKind.wrap_i64]; omega

/-- lay -/
theorem lay_any (v p : Nat) (w : World) (hz : Hz B w b s K P R) (hv : v < P.length) (hp : p < R.length) (hP : P.length ≤ 1048577) (hR : R.length ≤ 1048578) :
    Calls Try.prog 43 #[.pointer (some ⟨b, s.o, none⟩), .int .i32 (v : Int), .int .i32 (p : Int)] w fun e w' => e = .returned (.tuple #[]) ∧ HzS B b s K (P.set v p) (R.set p v) w w' := by
  obtain ⟨gR, cR, eR, k1, k2, k3⟩ := row_some hz.r (by omega)
  obtain ⟨gP, cP, eP, j1, j2, j3⟩ := row_some hz.p (by omega)
  have b2 := hz.c2
  rw [eR] at b2
  have rR := hz.r
  rw [eR] at rR
  have zR := row_fz rR p
  have xR := row_cell rR (i32n_at hp)
  obtain ⟨q1, m1⟩ := hz.setR eR hp v
  have b1 := q1.c1
  rw [eP] at b1
  have rP := q1.p
  rw [eP] at rP
  have zP := row_fz rP v
  have xP := row_cell rP (i32n_at hv)
  obtain ⟨q2, m2⟩ := q1.setP eP hv p
  have HF : Hid (HzS B b s K (P.set v p) (R.set p v) w ((w.setCell ⟨gR, p, none⟩ (.int .i32 (v : Int))).setCell ⟨gP, v, none⟩ (.int .i32 (p : Int)))) := ⟨q2, m1.trans m2⟩
  have hpf := wr32 (z := p) (by omega)
  have hvf := wr32 (z := v) (by omega)
  clear q1 q2 m1 m2 rR rP hz eR eP
  obtain ⟨o, ho⟩ : ∃ o, s.o = o := ⟨_, rfl⟩
  rw [ho] at b1 b2 ⊢
  clear ho
  generalize gt P v = x at *
  generalize gt R p = y at *
  generalize P.length = NP at *
  generalize R.length = NR at *
  go_enter Try.func43, Try.ntmps43
  go_wp2
  go_end0
  exact ⟨rfl, HF.out⟩
end
end Go.Proofs.Ytbfjhgiifmhccaa

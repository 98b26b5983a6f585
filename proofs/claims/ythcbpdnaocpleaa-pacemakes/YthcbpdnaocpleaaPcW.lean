/-
  The document's Make and Plan, walked.
  KEEP: putObj alloc same block size os tape output mono lt own new keep conf rest clr below grown
-/
import Derived.Test.YthcbpdnaocpleaaPcU
import Derived.Test.YthcbpdnaocpleaaPcV
import Derived.Deep.LoopGhost
set_option linter.unusedSimpArgs false
set_option linter.unusedVariables false
namespace Go.Proofs.Ythcbpdnaocpleaa
open Go Go.RowKit

theorem rMake_no (b f g : Int) (d : Nat) (p u : Int) (w : World) (hf : fmC b f g d p = false) :
    Calls Try.prog 16 #[.agg #[.int .i64 b, .int .i64 f, .int .i64 g, .float .f64 d, .int .i64 p, .int .i64 u]] w fun e w' => e = .returned (.tuple #[.pointer none, .int .i64 1]) ∧ Below w.heap.size w w' := by
  have HF : Hid (∀ W, Calls Try.prog 15 #[.agg #[.int .i64 b, .int .i64 f, .int .i64 g, .float .f64 d, .int .i64 p, .int .i64 u]] W fun e w' => e = .returned (.bool false) ∧ Below W.heap.size W w') := fun W => by
    have := rFormed_any b f g d p u W
    rwa [hf] at this
  clear hf
  go_enter Try.func16, Try.ntmps16
  go_wp2_with (go_at_call 15; refine (HF.out _).mono ?_; rintro e w2 ⟨rfl, bel⟩)
  go_returns
  exact ⟨rfl, (below_new _ _).next bel (Nat.le_refl _)⟩
theorem rMake_yes (b f g : Int) (d : Nat) (p u : Int) (w : World) (hf : fmC b f g d p = true) :
    Calls Try.prog 16 #[.agg #[.int .i64 b, .int .i64 f, .int .i64 g, .float .f64 d, .int .i64 p, .int .i64 u]] w fun e w' => ∃ r, e = .returned (.tuple #[.pointer (some ⟨r, 0, none⟩), .int .i64 0]) ∧ Rz w' r b f g d p u ps0 ∧ w.heap.size ≤ r ∧ Below w.heap.size w w' := by
  have HF : Hid (∀ W, Calls Try.prog 15 #[.agg #[.int .i64 b, .int .i64 f, .int .i64 g, .float .f64 d, .int .i64 p, .int .i64 u]] W fun e w' => e = .returned (.bool true) ∧ Below W.heap.size W w') := fun W => by
    have := rFormed_any b f g d p u W
    rwa [hf] at this
  clear hf
  go_enter Try.func16, Try.ntmps16
  go_upto_region 1 with fail
  have HC : Hid (Cb (w.alloc (.cells #[.int .i64 b, .int .i64 f, .int .i64 g, .float .f64 d, .int .i64 p, .int .i64 u] 24)) w.heap.size b f g d p u) := Cb.new _ _ _ _ _ _ _
  have HB : Hid (Below w.heap.size w (w.alloc (.cells #[.int .i64 b, .int .i64 f, .int .i64 g, .float .f64 d, .int .i64 p, .int .i64 u] 24))) := below_new _ _
  generalize w.alloc (.cells #[.int .i64 b, .int .i64 f, .int .i64 g, .float .f64 d, .int .i64 p, .int .i64 u] 24) = W1 at *
  obtain ⟨k0, k1, k2, k3, k4, k5⟩ := HC.out.cells
  go_upto_region 3 with (go_at_call 15; refine (HF.out _).mono ?_; rintro e w2 ⟨rfl, bel⟩)
  have hC2 := HC.out.on bel HC.out.lt
  have HB2 : Hid (Below w.heap.size w w2) := HB.out.next bel (Nat.le_refl _)
  clear k0 k1 k2 k3 k4 k5 HC HF HB bel
  obtain ⟨k0, k1, k2, k3, k4, k5⟩ := hC2.cells
  have hlt := hC2.lt
  clear hC2
  go_wp2
  go_returns
  exact ⟨_, rfl, heap_new _ _, HB2.out.size, HB2.out.next (below_new _ _) (Nat.le_refl _)⟩

theorem rPlan_bad (b f g : Int) (d : Nat) (p u n : Int) (w : World) (hf : fmC b f g d p = false) :
    Calls Try.prog 18 #[.agg #[.int .i64 b, .int .i64 f, .int .i64 g, .float .f64 d, .int .i64 p, .int .i64 u], .int .i64 n] w fun e w' => e = .returned (.tuple #[.slice none 0 0, .int .i64 1]) ∧ Below w.heap.size w w' := by
  have HM : Hid (∀ W, Calls Try.prog 16 #[.agg #[.int .i64 b, .int .i64 f, .int .i64 g, .float .f64 d, .int .i64 p, .int .i64 u]] W fun e w' => e = .returned (.tuple #[.pointer none, .int .i64 1]) ∧ Below W.heap.size W w') := fun W => rMake_no b f g d p u W hf
  clear hf
  go_enter Try.func18, Try.ntmps18
  go_wp2_with (go_at_call 16; refine (HM.out _).mono ?_; rintro e w2 ⟨rfl, bel⟩)
  go_returns
  exact ⟨rfl, (below_new _ _).next bel (Nat.le_refl _)⟩
theorem rPlan_far (b f g : Int) (d : Nat) (p u n : Int) (w : World) (hf : fmC b f g d p = true) (hn : n < 0 ∨ 1048576 < n) :
    Calls Try.prog 18 #[.agg #[.int .i64 b, .int .i64 f, .int .i64 g, .float .f64 d, .int .i64 p, .int .i64 u], .int .i64 n] w fun e w' => e = .returned (.tuple #[.slice none 0 0, .int .i64 2]) ∧ Below w.heap.size w w' := by
  have HM : Hid (∀ W, Calls Try.prog 16 #[.agg #[.int .i64 b, .int .i64 f, .int .i64 g, .float .f64 d, .int .i64 p, .int .i64 u]] W fun e w' => ∃ r, e = .returned (.tuple #[.pointer (some ⟨r, 0, none⟩), .int .i64 0]) ∧ Rz w' r b f g d p u ps0 ∧ W.heap.size ≤ r ∧ Below W.heap.size W w') := fun W => rMake_yes b f g d p u W hf
  clear hf
  rcases hn with hn | hn
  · go_enter Try.func18, Try.ntmps18
    go_wp2_with (go_at_call 16; refine (HM.out _).mono ?_; rintro e w2 ⟨r, rfl, hr, hr0, bel⟩)
    go_returns
    exact ⟨rfl, (below_new _ _).next bel (Nat.le_refl _)⟩
  · have hn0 : 0 ≤ n := by omega
    go_enter Try.func18, Try.ntmps18
    go_wp2_with (go_at_call 16; refine (HM.out _).mono ?_; rintro e w2 ⟨r, rfl, hr, hr0, bel⟩)
    go_returns
    exact ⟨rfl, (below_new _ _).next bel (Nat.le_refl _)⟩

attribute [local go_sem ↓] append_alias
theorem beat_run {w6 : World} {base : Nat} {K : Int} {c : Bool} {v : Value} {L : List (Int × Bool)} (h : OwnB base w6 v L) (hb : base ≤ w6.heap.size) (hL : L.length ≤ 1099511627776) :
    ∃ a' c' w7, (appAct #[v, .slice (some ⟨w6.heap.size, 0, none⟩) 1 1]).run Try.prog (w6.alloc (.cells #[.int .i64 K, .bool c] 50)) = .ok (.slice a' (L.length + 1) c') w7 ∧
      Hid (OwnB base w7 (.slice a' (L.length + 1) c') (L ++ [(K, c)]) ∧ (w6.alloc (.cells #[.int .i64 K, .bool c] 50)).grownBy w7 v.ownBlock) := by
  have hb2 := below_new w6 (.cells #[.int .i64 K, .bool c] 50)
  obtain ⟨v', w7, h1, h2, h3, h4⟩ := beat_app _ base v L w6.heap.size K c (h.below hb2) (by have := hb2.size; omega) hL (heap_new w6 _)
  obtain ⟨a', c', hf⟩ := h2.form
  rw [List.length_append] at hf
  have hf' : v' = .slice a' (L.length + 1) c' := hf
  subst hf'
  exact ⟨a', c', w7, h1, h2, h3⟩

/-- the document's Plan ahead of a round: m conflicts so far -/
structure Rp (w : World) (N r : Nat) (b f g : Int) (d : Nat) (p u n : Int) (x : Ps) (v : Value) (L : List (Int × Bool)) (W : World) : Prop where
  rz : Rz W r b f g d p u x
  rN : w.heap.size ≤ r ∧ r < N ∧ N ≤ W.heap.size
  ow : OwnB N W v L
  bel : Below w.heap.size w W
  pn : Pn b f g x
  len : (L.length : Int) = x.t1
  all : L ++ pl b f g n (n.toNat + 1 - L.length) L.length x.l1 x.t2 x.l2 = plF b f g n
  lt : x.k - x.l1 < b * (lub (L.length + 1) : Int)
  kn : x.k ≤ n
theorem Rp.step {w W W' : World} {N r : Nat} {b f g : Int} {d : Nat} {p u n : Int} {x y : Ps} {v : Value} {L : List (Int × Bool)} (h : Rp w N r b f g d p u n x v L W) (hz : Rz W' r b f g d p u y) (hm : Mp r 1 W W') : OwnB N W' v L ∧ Below w.heap.size w W' ∧ N ≤ W'.heap.size := by
  have hN := h.rN
  exact ⟨h.ow.keep (fun q hq => hm.block q (h.ow.lt q hq).2 (by have := (h.ow.lt q hq).1; omega)), hm.low h.bel h.bel.size (by omega), by have := hm.size; omega⟩
theorem Ps.rw1 {x : Ps} {b : Int} {L : List (Int × Bool)} (h : (L.length : Int) = x.t1) : x.conf.w1 b = b * (lub (L.length + 1) : Int) := by
  show b * lubI (x.t1 + 1) = _
  rw [← h, show ((L.length : Int) + 1) = ((L.length + 1 : Nat) : Int) by omega, lubI_nat (by omega)]
/-- no restart: on -/
theorem Rp.no {w W W' : World} {N r : Nat} {b f g : Int} {d : Nat} {p u n : Int} {x : Ps} {v : Value} {L : List (Int × Bool)} (h : Rp w N r b f g d p u n x v L W) (hk : x.k < n) (hn : n ≤ 1048576) (hq : x.conf.r b = false) (hz : Rz W' r b f g d p u x.conf) (hm : Mp r 1 W W') : Rp w N r b f g d p u n x.conf v L W' := by
  obtain ⟨h1, h2, h3⟩ := h.step hz hm
  have hr : ¬ x.conf.w1 b ≤ x.conf.k - x.conf.l1 := of_decide_eq_false hq
  rw [Ps.rw1 h.len] at hr
  exact ⟨hz, ⟨h.rN.1, h.rN.2.1, h3⟩, h1, h2, h.pn.conf (by omega), h.len, h.all, by omega, by show x.k + 1 ≤ n; omega⟩
/-- a restart: the Beat that the plan has -/
theorem Rp.yes {w W W' : World} {N r : Nat} {b f g : Int} {d : Nat} {p u n : Int} {x : Ps} {v v' : Value} {L : List (Int × Bool)} (h : Rp w N r b f g d p u n x v L W) (hk : x.k < n) (hn : n ≤ 1048576) (hq : x.conf.r b = true)
    (hz : Rz W' r b f g d p u ((x.conf.rest b).clr f g)) (ho : OwnB N W' v' (L ++ [(x.k + 1, (x.conf.rest b).c f g)])) (hb : Below w.heap.size w W') (hN : N ≤ W'.heap.size) :
    Rp w N r b f g d p u n ((x.conf.rest b).clr f g) v' (L ++ [(x.k + 1, (x.conf.rest b).c f g)]) W' := by
  have hr : x.conf.w1 b ≤ x.conf.k - x.conf.l1 := of_decide_eq_true hq
  rw [Ps.rw1 h.len] at hr
  have hr' : b * (lub (L.length + 1) : Int) ≤ x.k + 1 - x.l1 := hr
  have hlt := h.lt
  have hpn := (h.pn.conf (by omega)).rest (b := b)
  have hy := lub_b (b := b) (i := L.length) h.pn.b1 h.pn.b2 (by
    have h1 : 1 * x.t1 ≤ b * x.t1 := Int.mul_le_mul_of_nonneg_right h.pn.b1 h.pn.t1
    have := h.pn.i1; have := h.pn.l1k; have := h.len; omega)
  have hi : L.length ≤ n.toNat := by
    have h1 : 1 * x.t1 ≤ b * x.t1 := Int.mul_le_mul_of_nonneg_right h.pn.b1 h.pn.t1
    have := h.pn.i1; have := h.pn.l1k; have := h.len; omega
  have e1 : x.l1 + b * (lub (L.length + 1) : Int) = x.k + 1 := by omega
  have hall := h.all
  rw [show n.toNat + 1 - L.length = (n.toNat - L.length) + 1 by omega] at hall
  have en : n.toNat + 1 - (L ++ [(x.k + 1, (x.conf.rest b).c f g)]).length = n.toNat - L.length := by simp
  have el : (L ++ [(x.k + 1, (x.conf.rest b).c f g)]).length = L.length + 1 := by simp
  have hrest := Ps.rest_yes hq
  have hlp := lub_b (b := b) (i := L.length + 1) h.pn.b1 h.pn.b2 (by
    have h1 : 1 * x.t1 ≤ b * x.t1 := Int.mul_le_mul_of_nonneg_right h.pn.b1 h.pn.t1
    have := h.pn.i1; have := h.pn.l1k; have := h.len; omega)
  have hpn2 := hpn.clr (f := f) (g := g)
  have hlen := h.len
  cases hc : (x.conf.rest b).c f g
  · rw [hc] at ho en el
    rw [Ps.clr_no hc] at hz hpn2 ⊢
    rw [hrest] at hz hpn2 hc ⊢
    have hc' : ¬ f + x.t2 * g ≤ x.l1 + b * (lub (L.length + 1) : Int) - x.l2 := by
      rw [e1]; exact of_decide_eq_false hc
    rw [pl_no (by omega) hc', e1] at hall
    refine ⟨hz, ⟨h.rN.1, h.rN.2.1, hN⟩, ho, hb, hpn2, by rw [el]; show _ = x.t1 + 1; omega, ?_, ?_, by show x.k + 1 ≤ n; omega⟩
    · rw [en, el, List.append_assoc]; exact hall
    · rw [el]; show (x.k + 1) - (x.k + 1) < _; omega
  · rw [hc] at ho en el
    rw [Ps.clr_yes hc] at hz hpn2 ⊢
    rw [hrest] at hz hpn2 hc ⊢
    have hc' : f + x.t2 * g ≤ x.l1 + b * (lub (L.length + 1) : Int) - x.l2 := by
      rw [e1]; exact of_decide_eq_true hc
    rw [pl_yes (by omega) hc', e1] at hall
    refine ⟨hz, ⟨h.rN.1, h.rN.2.1, hN⟩, ho, hb, hpn2, by rw [el]; show _ = x.t1 + 1; omega, ?_, ?_, by show x.k + 1 ≤ n; omega⟩
    · rw [en, el, List.append_assoc]; exact hall
    · rw [el]; show (x.k + 1) - (x.k + 1) < _; omega
theorem Rp.done {w W : World} {N r : Nat} {b f g : Int} {d : Nat} {p u n : Int} {x : Ps} {v : Value} {L : List (Int × Bool)} (h : Rp w N r b f g d p u n x v L W) (hk : x.k = n) : L = plF b f g n := by
  have hi : L.length ≤ n.toNat := by
    have h1 : 1 * x.t1 ≤ b * x.t1 := Int.mul_le_mul_of_nonneg_right h.pn.b1 h.pn.t1
    have := h.pn.i1; have := h.pn.l1k; have := h.len; omega
  have hall := h.all
  rw [show n.toNat + 1 - L.length = (n.toNat - L.length) + 1 by omega, pl_stop (by have := h.lt; omega), List.append_nil] at hall
  exact hall
end Go.Proofs.Ythcbpdnaocpleaa

/-
  heat: both heats beside one another; one call of both.
  KEEP: set on app at below new trans refl start kept mono lt add none own nil put len pos other cell ty blt fz box k p r pr a0 a1 a2 c0 c1 c2 hb setK setP setR unique grown step fin bij up q1 q2 pl held mk v1 v2 t1 t2 hs few cut root z kl nl sl d1 d2 row down has holds stp bel heat cells sc wi mem srt inn inj out lays ap kind rd rds bump cool weak types foreign rows cong form heat nodup s w ord rest apS apV ht rz goX goY
-/
import Derived.Test.YtbfjhgiifmhccaaHrN
import Derived.Test.YtbfjhgiifmhccaaHtPk
import Derived.Test.YtbfjhgiifmhccaaSames
set_option linter.unusedSimpArgs false
set_option linter.unusedVariables false
namespace Go.Proofs.Ytbfjhgiifmhccaa
open Go Go.RowKit
attribute [local go_sem] run_store_float

structure Ph (B C : Nat) (W : World) (x : Nat) (v : Hv) (y : Nat) (s : Rv) (n dec st : Nat) (K : List Nat) (H : Nat → Bool) (st' : Nat) (K' : List Nat) (H' : Nat → Bool) : Prop where
  ht : Ht B W x v n dec st K H
  rz : Rz C W y s n dec st' K' H'
  ap : ∀ k, v.own x k → ¬ s.own y k
def prH (x : Nat) (v : Hv) (y : Nat) (s : Rv) (k : Nat) : Prop := v.own x k ∨ s.own y k
section
variable {B C x y n dec st st' st2 : Nat} {v v' : Hv} {s : Rv} {K K' K2 : List Nat} {H H' H2 : Nat → Bool} {W W' : World}
theorem Ph.kept (h : Ph B C W x v y s n dec st K H st' K' H') (hk : ∀ k, prH x v y s k → W'.heap[k]? = W.heap[k]?) : Ph B C W' x v y s n dec st K H st' K' H' := ⟨h.ht.kept fun k e => hk k (.inl e), h.rz.kept fun k e => hk k (.inr e), h.ap⟩
theorem Ph.below (h : Ph B C W x v y s n dec st K H st' K' H') (hb : Below W.heap.size W W') : Ph B C W' x v y s n dec st K H st' K' H' := ⟨h.ht.below hb, h.rz.below hb, h.ap⟩
theorem Ph.lt (h : Ph B C W x v y s n dec st K H st' K' H') : ∀ k, prH x v y s k → k < W.heap.size := by
  rintro k (hk | hk)
  · exact (h.ht.lt k hk).2
  · exact (h.rz.lt k hk).2
theorem Ph.goX (h : Ph B C W x v y s n dec st K H st' K' H') (ht : Ht B W' x v' n dec st2 K2 H2) (hm : Mf W (v.own x) W' (v'.own x)) : Ph B C W' x v' y s n dec st2 K2 H2 st' K' H' ∧ Mf W (prH x v y s) W' (prH x v' y s) := by
  refine ⟨⟨ht, h.rz.kept fun k hk => hm.block k (h.rz.lt k hk).2 (fun h1 => h.ap k h1 hk), fun k h1 h2 => ?_⟩, ⟨hm.os, hm.tape, hm.output, hm.size, fun k hk h1 => hm.block k hk (fun h2 => h1 (.inl h2)), ?_⟩⟩
  · rcases hm.new k h1 with h3 | h3
    · exact h.ap k h3 h2
    · have := (h.rz.lt k h2).2; omega
  · rintro k (h1 | h1)
    · rcases hm.new k h1 with h3 | h3
      · exact .inl (.inl h3)
      · exact .inr h3
    · exact .inl (.inr h1)
theorem Ph.goY (h : Ph B C W x v y s n dec st K H st' K' H') (hr : RzS C y s n dec st2 K2 H2 W W') : Ph B C W' x v y s n dec st K H st2 K2 H2 ∧ Mf W (prH x v y s) W' (prH x v y s) := by
  obtain ⟨hz, hm⟩ := hr
  exact ⟨⟨h.ht.kept fun k hk => hm.block k (h.ht.lt k hk).2 (fun h1 => h.ap k hk h1), hz, h.ap⟩, ⟨hm.os, hm.tape, hm.output, hm.size, fun k hk h1 => hm.block k hk (fun h2 => h1 (.inr h2)), fun k hk => .inl hk⟩⟩
end
section
variable {n dec st : Nat} {K : List Nat} {H : Nat → Bool}
def CX (f : Nat) (l : List Value) (n dec st : Nat) (K : List Nat) (H : Nat → Bool) (r : Value) (st2 : Nat) (K2 : List Nat) (H2 : Nat → Bool) : Prop :=
  ∀ (B b : Nat) (v : Hv) (w : World), Ht B w b v n dec st K H → Calls Try.prog f (#[.pointer (some ⟨b, 0, none⟩)] ++ l.toArray) w fun e w' => e = .returned r ∧ HtS B b v n dec st2 K2 H2 w w'
def CY (f : Nat) (l : List Value) (n dec st : Nat) (K : List Nat) (H : Nat → Bool) (r : Value) (st2 : Nat) (K2 : List Nat) (H2 : Nat → Bool) : Prop :=
  ∀ (B b : Nat) (s : Rv) (w : World), Rz B w b s n dec st K H → Calls Try.prog f (#[.pointer (some ⟨b, 0, none⟩)] ++ l.toArray) w fun e w' => e = .returned r ∧ RzS B b s n dec st2 K2 H2 w w'
theorem hts_refl {B b : Nat} {v : Hv} {w : World} (h : Ht B w b v n dec st K H) : HtS B b v n dec st K H w w := ⟨v, h, Mf.refl _ _⟩
theorem rzs_refl {B b : Nat} {v : Rv} {w : World} (h : Rz B w b v n dec st K H) : RzS B b v n dec st K H w w := ⟨h, Mf.refl _ _⟩
theorem bump_both (x : Int) : ∃ (r : Int) (st2 : Nat) (K2 : List Nat), CX 23 [.int .i64 x] n dec st K H (.int .i64 r) st2 K2 H ∧ CY 28 [.int .i64 x] n dec st K H (.int .i64 r) st2 K2 H := by
  by_cases hx : 1 ≤ x ∧ x ≤ n
  · obtain ⟨m, rfl⟩ : ∃ m : Nat, x = m := ⟨x.toNat, by omega⟩
    exact ⟨0, _, _, fun B b v w h => (bump_yes m w h (by omega) (by omega)).mono fun e w' hh => ⟨hh.1, v, hh.2.1, hh.2.2⟩, fun B b v w h => (rbump_yes m w h (by omega) (by omega)).mono fun e w' hh => hh⟩
  · exact ⟨2, st, K, fun B b v w h => (bump_no x w h hx).mono fun e w' hh => ⟨hh.1, by rw [hh.2]; exact hts_refl h⟩, fun B b v w h => (rbump_no x w h hx).mono fun e w' hh => ⟨hh.1, by rw [hh.2]; exact rzs_refl h⟩⟩
theorem put_both (x : Int) : ∃ (r : Int) (H2 : Nat → Bool), CX 21 [.int .i64 x] n dec st K H (.int .i64 r) st K H2 ∧ CY 31 [.int .i64 x] n dec st K H (.int .i64 r) st K H2 := by
  by_cases hx : 1 ≤ x ∧ x ≤ n
  · obtain ⟨m, rfl⟩ : ∃ m : Nat, x = m := ⟨x.toNat, by omega⟩
    cases h0 : H m with
    | true => exact ⟨50, H, fun B b v w h => (put_set m w h (by omega) (by omega) h0).mono fun e w' hh => ⟨hh.1, by rw [hh.2]; exact hts_refl h⟩, fun B b v w h => (rput_set m w h (by omega) (by omega) h0).mono fun e w' hh => ⟨hh.1, by rw [hh.2]; exact rzs_refl h⟩⟩
    | false => exact ⟨0, _, fun B b v w h => (put_yes m w h (by omega) (by omega) h0).mono fun e w' hh => hh, fun B b v w h => (rput_yes m w h (by omega) (by omega) h0).mono fun e w' hh => hh⟩
  · exact ⟨2, H, fun B b v w h => (put_no x w h hx).mono fun e w' hh => ⟨hh.1, by rw [hh.2]; exact hts_refl h⟩, fun B b v w h => (rput_no x w h hx).mono fun e w' hh => ⟨hh.1, by rw [hh.2]; exact rzs_refl h⟩⟩
theorem wb_some (κ : Nat → Nat) (M : Nat → Bool) (k : Nat) : ∃ t, WB κ M k t := by
  induction k with
  | zero => exact ⟨0, WB.start _ _⟩
  | succ k ih =>
    obtain ⟨t, ht⟩ := ih
    cases hm : M (k + 1) with
    | false => exact ⟨t, ht.skip hm⟩
    | true =>
      by_cases h0 : t = 0
      · subst h0; exact ⟨_, ht.first hm⟩
      · by_cases hg : κ t < κ (k + 1)
        · exact ⟨_, ht.more (by omega) hm hg⟩
        · exact ⟨t, ht.keep (by omega) hm hg⟩
theorem take_both : ∃ (t : Nat) (q : Bool) (H2 : Nat → Bool), CX 20 [] n dec st K H (.tuple #[.int .i64 (t : Int), .bool q]) st K H2 ∧ CY 30 [] n dec st K H (.tuple #[.int .i64 (t : Int), .bool q]) st K H2 := by
  obtain ⟨t, ht⟩ := wb_some (gt K) H n
  rcases ht with ⟨h0, h1⟩ | ⟨h1, h2, h3, h4⟩
  · exact ⟨0, false, H, fun B b v w h => (take_no w h h1).mono fun e w' hh => ⟨hh.1, by rw [hh.2]; exact hts_refl h⟩, fun B b v w h => (rtake_no w h h1).mono fun e w' hh => ⟨hh.1, h.below hh.2, Mf.below hh.2⟩⟩
  · exact ⟨t, true, _, fun B b v w h => (take_yes t w h h1 h2 h3 h4).mono fun e w' hh => hh, fun B b v w h => (rtake_yes t w h h1 h2 h3 h4).mono fun e w' hh => hh⟩
theorem score_both (x : Int) (hf : Fin K) : ∃ (f : Nat) (r : Int), (FloatKind.f64.format.order f f == some .eq) = true ∧ (∀ (B b : Nat) (v : Hv) (w : World), Ht B w b v n dec st K H → Calls Try.prog 15 #[.pointer (some ⟨b, 0, none⟩), .int .i64 x] w fun e w' => e = .returned (.tuple #[.float .f64 f, .int .i64 r]) ∧ w' = w) ∧
    ∀ (B b : Nat) (s : Rv) (w : World), Rz B w b s n dec st K H → Calls Try.prog 33 #[.pointer (some ⟨b, 0, none⟩), .int .i64 x] w fun e w' => e = .returned (.tuple #[.float .f64 f, .int .i64 r]) ∧ w' = w := by
  have he : ∀ f, f ≤ infR → (FloatKind.f64.format.order f f == some .eq) = true := fun f hf => by
    show (Ieee.double.order f f == some .eq) = _
    rw [ord_word hf hf, Nat.compare_eq_eq.2 rfl]; rfl
  by_cases hx : 1 ≤ x ∧ x ≤ n
  · obtain ⟨m, rfl⟩ : ∃ m : Nat, x = m := ⟨x.toNat, by omega⟩
    exact ⟨_, _, he _ (hf m), fun B b v w h => score_yes m w h (by omega) (by omega), fun B b v w h => rscore_yes m w h (by omega) (by omega)⟩
  · exact ⟨_, _, he 0 (Nat.zero_le _), fun B b v w h => score_no x w h hx, fun B b v w h => rscore_no x w h hx⟩
end
end Go.Proofs.Ytbfjhgiifmhccaa

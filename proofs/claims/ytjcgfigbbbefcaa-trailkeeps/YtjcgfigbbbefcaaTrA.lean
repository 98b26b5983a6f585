/-
  trail, the statements' helpers: Pick, live, act, begun.
  KEEP: set on app at below new trans refl start ap kept rd rds mono
-/
import Derived.Test.YtjcgfigbbbefcaaTrB
import Derived.Test.YtjcgfigbbbefcaaTrM
set_option linter.unusedSimpArgs false
set_option linter.unusedVariables false
namespace Go.Proofs.Ytjcgfigbbbefcaa
open Go Go.RowKit

theorem trBack_any (b : Nat) (s : Sl) (n : Nat) (R : List Pl) (k : Int) (w : World) (h : Tr w b s n R) :
    Calls Try.prog 16 #[.pointer (some ⟨b, 0, none⟩), .int .i64 k] w fun e w' => ∃ u s', e = .returned (.tuple #[u, .int .i64 (backE R k)]) ∧ Own w.heap.size w' u (backO R k) ∧ Tr w' b s' n (backF R k) ∧ Mv w b s w' s' ∧ ∀ j, s'.own b j → s.own b j := by
  by_cases hk : inR R k
  · have e1 : backE R k = 0 := by unfold backE; rw [if_pos hk]
    have e2 : backF R k = cutR R k.toNat := by unfold backF; rw [if_pos hk]
    have e3 : backO R k = ((R.drop (cutR R k.toNat).length).map Pl.lit).reverse := by unfold backO; rw [if_pos hk]
    rw [e1, e2, e3]
    obtain ⟨j, rfl⟩ : ∃ j : Nat, k = j := ⟨k.toNat, by have := hk.1; omega⟩
    rw [Int.toNat_natCast]
    by_cases hj : j < now R
    · exact trBack_in b s n R j w h hj
    · obtain rfl : j = now R := by have := hk.2; omega
      rw [cut_full h.ok (Nat.le_refl _), List.drop_length]
      exact (trBack_none b s n R w h).mono fun e w' ⟨he, hw⟩ => by
        subst hw
        exact ⟨_, s, he, World.ownsRow_nil _ _ _ _, h, Mv.refl _ _ _, fun _ h => h⟩
  · have e1 : backE R k = 2 := by unfold backE; rw [if_neg hk]
    have e2 : backF R k = R := by unfold backF; rw [if_neg hk]
    have e3 : backO R k = [] := by unfold backO; rw [if_neg hk]
    rw [e1, e2, e3]
    exact (trBack_out b s n R k w h hk).mono fun e w' ⟨he, hw⟩ => by
      subst hw
      exact ⟨_, s, he, World.ownsRow_nil _ _ _ _, h, Mv.refl _ _ _, fun _ h => h⟩
theorem trLevel_tr (b : Nat) (s : Sl) (n : Nat) (R : List Pl) (w : World) (h : Tr w b s n R) :
    Calls Try.prog 17 #[.pointer (some ⟨b, 0, none⟩)] w fun e w' => e = .returned (.int .i64 (now R : Int)) ∧ w' = w := by
  have hnow := now_le R
  have hlen := h.ok.len
  have hN := h.n
  have h1 := trLevel_any b s n _ _ _ _ w h.q (by rw [lvs_len]; omega) (by rw [lvs_len]; omega)
  rw [lvs_len] at h1
  have e1 : ((now R + 1 : Nat) : Int) - 1 = (now R : Int) := by omega
  rw [e1] at h1
  exact h1

/-- a trail of a call's own -/
structure Ls (w W : World) (b : Nat) (s : Sl) (n : Nat) (R : List Pl) : Prop where
  bel : Below w.heap.size w W
  tr : Tr W b s n R
  new : ∀ k, s.own b k → w.heap.size ≤ k
theorem Ls.below {w W W' : World} {b : Nat} {s : Sl} {n : Nat} {R : List Pl} (h : Ls w W b s n R) (hb : Below W.heap.size W W') : Ls w W' b s n R := ⟨Below.step h.bel hb, h.tr.below hb, h.new⟩
theorem Ls.mv {w W W' : World} {b : Nat} {s s' : Sl} {n : Nat} {R R' : List Pl} (h : Ls w W b s n R) (ht : Tr W' b s' n R') (hm : Mv W b s W' s') : Ls w W' b s' n R' :=
  ⟨h.bel.trans ⟨hm.os, hm.tape, hm.output, hm.size, fun k hk => hm.block k (Nat.lt_of_lt_of_le hk h.bel.size) (fun ho => by have := h.new k ho; omega)⟩, ht, fun k hk => by
    rcases hm.new k hk with h1 | h1
    · exact h.new k h1
    · exact Nat.le_trans h.bel.size h1⟩
/-- P5.1 -/
theorem trailBegins_walk (z l : Int) (w : World) :
    Calls Try.prog 4 #[.int .i64 z, .int .i64 l] w fun e w' => e = .returned (.bool true) ∧ Below w.heap.size w w' := by
  by_cases hz : 0 ≤ z ∧ z ≤ 1048576
  · go_enter Try.func4, Try.ntmps4
    go_wp2_with fail
    refine (trNew_any z w hz).mono ?_
    rintro e w1 ⟨b, s, rfl, ht, bel1, hnw⟩
    have L1 : Hid (Ls w w1 b s z.toNat []) := ⟨bel1, ht, hnw⟩
    clear ht bel1 hnw
    go_wp2_with fail
    refine (trLits_any b s _ [] w1 L1.out.tr).mono ?_
    rintro e w2 ⟨u2, rfl, own2, bel2⟩
    obtain ⟨a2, c2, rfl⟩ := own_form own2
    have L2 : Hid (Ls w w2 b s z.toNat []) := L1.out.below bel2
    clear own2 bel2 L1
    go_wp2_with fail
    refine (trMarks_any b s _ [] w2 L2.out.tr).mono ?_
    rintro e w3 ⟨u3, rfl, own3, bel3⟩
    obtain ⟨a3, c3, rfl⟩ := own_form own3
    have L3 : Hid (Ls w w3 b s z.toNat []) := L2.out.below bel3
    clear own3 bel3 L2
    go_wp2_with fail
    refine (trBack_any b s _ [] 0 w3 L3.out.tr).mono ?_
    rintro e w4 ⟨u4, s4, rfl, own4, ht4, hm4, _⟩
    have L4 : Hid (Ls w w4 b s4 z.toNat []) := by
      have e1 : backF [] 0 = [] := rfl
      rw [e1] at ht4
      exact L3.out.mv ht4 hm4
    have e2 : backO [] 0 = [] := rfl
    have e3 : backE [] 0 = 0 := rfl
    rw [e2] at own4
    rw [e3]
    obtain ⟨a4, c4, rfl⟩ := own_form own4
    clear own4 ht4 hm4 L3 e2 e3
    simp only [List.map_nil, List.length_nil, show (mks []).length = 0 from rfl]
    have h1 : valL z.toNat [] l = 0 := by unfold valL valV fnd; simp
    have h2 : levL z.toNat [] l = -1 := by unfold levL fnd; simp
    have h3 : reaL z.toNat [] l = -1 := by unfold reaL fnd; simp
    have H1 : Hid (valL z.toNat [] l = 0 ∧ levL z.toNat [] l = -1 ∧ reaL z.toNat [] l = -1) := ⟨h1, h2, h3⟩
    clear h1 h2 h3
    go_wp2_with fail
    refine (trLevel_tr b s4 _ [] w4 L4.out.tr).mono ?_
    rintro e w5 ⟨rfl, rfl⟩
    simp only [show now [] = 0 from rfl]
    go_wp2_with fail
    refine (trValue_any b s4 _ [] l w5 L4.out.tr).mono ?_
    rw [H1.out.1]
    rintro e w6 ⟨rfl, rfl⟩
    go_wp2_with fail
    refine (trLevelOf_any b s4 _ [] l w6 L4.out.tr).mono ?_
    rw [H1.out.2.1]
    rintro e w7 ⟨rfl, rfl⟩
    go_wp2_with fail
    refine (trReason_any b s4 _ [] l w7 L4.out.tr).mono ?_
    rw [H1.out.2.2]
    rintro e w8 ⟨rfl, bel8⟩
    have L8 : Hid (Ls w w8 b s4 z.toNat []) := L4.out.below bel8
    clear bel8 L4
    go_wp2
    go_ret
    exact ⟨rfl, L8.out.bel⟩
  · have HN : Hid (Calls Try.prog 9 #[.int .i64 z] w fun e w' => e = .returned (.tuple #[.pointer none, .int .i64 2]) ∧ w' = w) := trNew_bad z w hz
    by_cases h0 : z < 0
    · clear hz
      go_enter Try.func4, Try.ntmps4
      go_wp2_with fail
      refine HN.out.mono ?_
      rintro e w1 ⟨rfl, rfl⟩
      go_wp2
      go_ret
      exact ⟨rfl, Below.refl _ _⟩
    · have h1 : 1048576 < z := by omega
      clear hz
      go_enter Try.func4, Try.ntmps4
      go_wp2_with fail
      refine HN.out.mono ?_
      rintro e w1 ⟨rfl, rfl⟩
      go_wp2
      go_ret
      exact ⟨rfl, Below.refl _ _⟩
end Go.Proofs.Ytjcgfigbbbefcaa

/-
  heat: the calls of a script, each with what it leaves.
  KEEP: set on app at below new trans refl start kept mono lt add none own nil put len pos other cell ty blt fz box k p r pr a0 a1 a2 c0 c1 c2 hb setK setP setR unique grown step fin bij up q1 q2 pl held mk v1 v2 t1 t2 hs few cut root z kl nl sl d1 d2 row down has holds stp bel heat mem srt inn inj out lays ap kind rd rds bump cool weak types foreign rows
-/
import Derived.Test.YtbfjhgiifmhccaaHtX
set_option linter.unusedSimpArgs false
set_option linter.unusedVariables false
namespace Go.Proofs.Ytbfjhgiifmhccaa
open Go Go.RowKit

theorem info_ii : (Try.prog.info? 52).map (fun i => (i.zero, i.size, i.bytes)) = some (some (.slice none 0 0), 1, 24) := by kernel_rfl
section
variable {w wx : World} {b n dec k : Nat} {u : Value}
theorem RunS.weak (h : RunS w wx b n dec u k) : RunS w wx b n dec u (k + 1) := by
  obtain ⟨v, st, K, H, L, h1, h2, h3, h4, h5, h6, h7⟩ := h
  exact ⟨v, st, K, H, L, h1, h2, h3, by omega, h5, fun e => by omega, h7⟩
theorem RunS.below {w' : World} (h : RunS w wx b n dec u k) (hb : Below wx.heap.size wx w') : RunS w w' b n dec u k := by
  obtain ⟨v, st, K, H, L, h1, h2, h3, h4, h5, h6, h7⟩ := h
  exact ⟨v, st, K, H, L, h1.below hb, h2, h3.below hb, h4, h5, h6, Below.step h7 hb⟩
theorem RunS.bel (h : RunS w wx b n dec u k) : Below w.heap.size w wx := by
  obtain ⟨v, st, K, H, L, h1, h2, h3, h4, h5, h6, h7⟩ := h
  exact h7
theorem bumpR (x : Int) (h : RunS w wx b n dec u k) :
    Calls Try.prog 23 #[.pointer (some ⟨b, 0, none⟩), .int .i64 x] wx fun e w' => (∃ z : Int, e = .returned (.int .i64 z)) ∧ RunS w w' b n dec u (k + 1) := by
  have h0 := h.weak
  obtain ⟨v, st, K, H, L, h1, h2, h3, h4, h5, h6, h7⟩ := h
  by_cases hx : 1 ≤ x ∧ x ≤ n
  · obtain ⟨m, rfl⟩ : ∃ m : Nat, x = m := ⟨x.toNat, by omega⟩
    exact (bump_yes m wx h1 (by omega) (by omega)).mono fun e w' hh => ⟨⟨0, hh.1⟩, RunS.heat h1 h3 h4 h5 h7 hh.2.1 (h2.bump m) hh.2.2⟩
  · exact (bump_no x wx h1 hx).mono fun e w' hh => ⟨⟨2, hh.1⟩, by rw [hh.2]; exact h0⟩
theorem coolR (h : RunS w wx b n dec u k) :
    Calls Try.prog 24 #[.pointer (some ⟨b, 0, none⟩)] wx fun e w' => e = .returned (.tuple #[]) ∧ RunS w w' b n dec u (k + 1) := by
  obtain ⟨v, st, K, H, L, h1, h2, h3, h4, h5, h6, h7⟩ := h
  exact (cool_any wx h1).mono fun e w' hh => ⟨hh.1, RunS.heat h1 h3 h4 h5 h7 hh.2.1 (h2.cool h1.d1 h1.d2) hh.2.2⟩
/-- the first of those within -/
theorem first_of {κ : Nat → Nat} {H : Nat → Bool} : ∀ (n : Nat), (∀ u, 1 ≤ u → u ≤ n → H u = false) ∨ ∃ t, 1 ≤ t ∧ t ≤ n ∧ H t = true ∧ ∀ u, 1 ≤ u → u ≤ n → H u = true → ahd κ u t = false
  | 0 => .inl fun u h1 h2 => by omega
  | n + 1 => by
    rcases first_of (κ := κ) (H := H) n with h | ⟨t, h1, h2, h3, h4⟩
    · cases e : H (n + 1)
      · refine .inl fun u hu hu' => ?_
        by_cases e2 : u = n + 1
        · rw [e2]; exact e
        · exact h u hu (by omega)
      · refine .inr ⟨n + 1, by omega, by omega, e, fun u hu hu' hh => ?_⟩
        by_cases e2 : u = n + 1
        · rw [e2]; exact ahd_irr _ _
        · rw [h u hu (by omega)] at hh; cases hh
    · cases e : H (n + 1)
      · refine .inr ⟨t, h1, by omega, h3, fun u hu hu' hh => ?_⟩
        by_cases e2 : u = n + 1
        · rw [e2, e] at hh; cases hh
        · exact h4 u hu (by omega) hh
      · cases ea : ahd κ (n + 1) t
        · refine .inr ⟨t, h1, by omega, h3, fun u hu hu' hh => ?_⟩
          by_cases e2 : u = n + 1
          · rw [e2]; exact ea
          · exact h4 u hu (by omega) hh
        · refine .inr ⟨n + 1, by omega, by omega, e, fun u hu hu' hh => ?_⟩
          by_cases e2 : u = n + 1
          · rw [e2]; exact ahd_irr _ _
          · exact ahd_lt (h4 u hu (by omega) hh) ea
theorem takeR (h : RunS w wx b n dec u k) :
    Calls Try.prog 20 #[.pointer (some ⟨b, 0, none⟩)] wx fun e w' => (∃ (z : Int) (q : Bool), e = .returned (.tuple #[.int .i64 z, .bool q])) ∧ RunS w w' b n dec u (k + 1) := by
  have h0 := h.weak
  obtain ⟨v, st, K, H, L, h1, h2, h3, h4, h5, h6, h7⟩ := h
  rcases first_of (κ := gt K) (H := H) n with hn | ⟨t, t1, t2, t3, t4⟩
  · exact (take_no wx h1 hn).mono fun e w' hh => ⟨⟨0, false, hh.1⟩, by rw [hh.2]; exact h0⟩
  · refine (take_yes t wx h1 t1 t2 t3 t4).mono fun e w' hh => ⟨⟨t, true, hh.1⟩, ?_⟩
    obtain ⟨v', hv, hm⟩ := hh.2
    exact RunS.heat h1 h3 h4 h5 h7 hv h2 hm
theorem hputR (x : Int) (h : RunS w wx b n dec u k) :
    Calls Try.prog 21 #[.pointer (some ⟨b, 0, none⟩), .int .i64 x] wx fun e w' => (∃ z : Int, e = .returned (.int .i64 z)) ∧ RunS w w' b n dec u (k + 1) := by
  have h0 := h.weak
  obtain ⟨v, st, K, H, L, h1, h2, h3, h4, h5, h6, h7⟩ := h
  by_cases hx : 1 ≤ x ∧ x ≤ n
  · obtain ⟨m, rfl⟩ : ∃ m : Nat, x = m := ⟨x.toNat, by omega⟩
    cases e : H m
    · refine (put_yes m wx h1 (by omega) (by omega) e).mono fun e w' hh => ⟨⟨0, hh.1⟩, ?_⟩
      obtain ⟨v', hv, hm⟩ := hh.2
      exact RunS.heat h1 h3 h4 h5 h7 hv h2 hm
    · exact (put_set m wx h1 (by omega) (by omega) e).mono fun e w' hh => ⟨⟨50, hh.1⟩, by rw [hh.2]; exact h0⟩
  · exact (put_no x wx h1 hx).mono fun e w' hh => ⟨⟨2, hh.1⟩, by rw [hh.2]; exact h0⟩
/-- Order's answer, appended -/
def AppR (w w2 : World) (b n dec : Nat) (a : Option Addr) (l c k : Nat) (a2 : Option Addr) (l2 c2 : Nat) : Prop := ∃ xs, (w2.alloc (.cells #[.slice a2 l2 c2] 52)).ownsRow w.heap.size 52 1 (.slice a l c) l xs ∧ w.heap.size ≤ (w2.alloc (.cells #[.slice a2 l2 c2] 52)).heap.size ∧ l ≤ k ∧ ∀ v8 w8, w8.ownsRow w.heap.size 52 1 v8 (l + 1) (xs ++ [.slice a2 l2 c2]) → Ap (w2.alloc (.cells #[.slice a2 l2 c2] 52)) (.slice a l c) w8 v8 → (∃ a8 c8, v8 = .slice a8 (l + 1) c8) ∧ RunS w w8 b n dec v8 (k + 1)
theorem orderR {a : Option Addr} {l c : Nat} (h : RunS w wx b n dec (.slice a l c) k) (hn : n ≤ 60) :
    Calls Try.prog 17 #[.pointer (some ⟨b, 0, none⟩)] wx fun e w' => ∃ a2 l2 c2, e = .returned (.slice a2 l2 c2) ∧ AppR w w' b n dec a l c k a2 l2 c2 := by
  obtain ⟨v, st, K, H, L, h1, h2, h3, h4, h5, h6, h7⟩ := h
  refine (order_any wx h1).mono fun e w' ⟨S, u2, he, ho, hw, hb⟩ => ?_
  obtain ⟨a2, c2, hu2⟩ := own_form hw
  subst hu2
  have hLl : L.length = l := by
    obtain ⟨a', c', e'⟩ := row_form' h3.row
    injection e' with _ e2 _
    exact e2.symm
  have hbox := below_box w' (.cells #[.slice a2 (S.map fun (x : Nat) => (x : Int)).length c2] 52)
  have h3' := h3.below hb
  have hsz : w.heap.size ≤ wx.heap.size := h7.size
  have hbw := Below.step h7 hb
  have hrow := World.ownsRow.alloc h3'.row (.cells #[.slice a2 (S.map fun (x : Nat) => (x : Int)).length c2] 52)
  rw [hLl] at hrow
  refine ⟨a2, _, c2, he, L.map Prod.fst, hrow, by rw [World.size_alloc]; have := hbw.size; omega, by omega, fun v8 w8 own8 ap8 => ⟨row_form' own8, ?_⟩⟩
  have hO : Own w.heap.size w' (.slice a2 (S.map fun (x : Nat) => (x : Int)).length c2) (S.map fun (x : Nat) => (x : Int)) := hw.mono hsz
  have hap : ApartC (L ++ [(.slice a2 (S.map fun (x : Nat) => (x : Int)).length c2, S.map fun (x : Nat) => (x : Int))]) := ApartC.snoc h3.ap h3.own hw (Nat.le_refl _)
  have hR := h3'.app (World.grownBy_alloc _ _ none) (by rw [hLl]; exact own8) ap8.grown hO hap
  have hT := ((h1.below hb).below hbox).rows hrow (by decide) (by decide) (by decide) ap8.grown
  have hbel : Below w.heap.size w w8 := by
    have hb1 := Below.step hbw hbox
    have hg := ap8.grown
    refine ⟨hg.os.trans hb1.os, hg.tape.trans hb1.tape, hg.output.trans hb1.output, Nat.le_trans hb1.size hg.size, fun j hj => (hg.block j (Nat.lt_of_lt_of_le hj hb1.size) fun e => ?_).trans (hb1.block j hj)⟩
    have := (hrow.lt j e.symm).1
    omega
  refine ⟨v, st, K, H, _, hT, h2, hR, by simp; omega, fun x hx => ?_, fun e => by omega, hbel⟩
  rcases List.mem_append.1 hx with hx | hx
  · exact h5 x hx
  · obtain rfl : x = (.slice a2 (S.map fun (x : Nat) => (x : Int)).length c2, S.map fun (x : Nat) => (x : Int)) := by simpa using hx
    have := ord_few ho
    simp; omega
end
end Go.Proofs.Ytbfjhgiifmhccaa

/-
  heat: In, Score, Put, Take; change, scale.
  KEEP: set on app at below new trans refl start kept mono lt add none own nil put len pos other cell ty blt fz box k p r pr a0 a1 a2 c0 c1 c2 hb setK setP setR unique grown step fin bij up q1 q2 pl held mk v1 v2 t1 t2 hs few cut root z kl nl sl d1 d2 row down
-/
import Derived.Test.YtbfjhgiifmhccaaHtC
set_option linter.unusedSimpArgs false
set_option linter.unusedVariables false
namespace Go.Proofs.Ytbfjhgiifmhccaa
open Go Go.RowKit
attribute [local go_sem] run_store_float

section
variable {B b n dec st : Nat} {v : Hv} {K P R : List Nat} {H : Nat → Bool} {W W1 : World}
theorem Ht.has (h : Ht B W b v n dec st K H) (x : Int) : Calls Try.prog 35 #[.pointer (some ⟨b, 2, none⟩), .int .i64 x] W fun e w' => e = .returned (.bool (hsB x (n + 1))) ∧ w' = W := by
  obtain ⟨P, R, hz, _⟩ := h.z
  have := has_any x W hz (by rw [h.kl]; have := h.nl; omega)
  rw [h.kl] at this
  exact this
theorem Ht.holds (h : Ht B W b v n dec st K H) {x : Nat} (h1 : 1 ≤ x) (h2 : x ≤ n) : Calls Try.prog 36 #[.pointer (some ⟨b, 2, none⟩), .int .i64 (x : Int)] W fun e w' => e = .returned (.bool (H x)) ∧ w' = W := by
  obtain ⟨P, R, hz, hb, _, hl⟩ := h.z
  have := holds_any x W hz (by rw [hb.pl]; omega)
  have e : decide (gt P x ≠ 0) = H x := by
    have := hl x h1 h2
    cases hx : H x
    · rw [hx] at this; exact decide_eq_false (fun h => by have := this.1 h; cases this)
    · rw [hx] at this; exact decide_eq_true (this.2 rfl)
  rw [e] at this
  exact this
theorem hsB_yes {x : Nat} (h1 : 1 ≤ x) (h2 : x ≤ n) : hsB (x : Int) (n + 1) = true := by simp [hsB]; omega
theorem hsB_no {x : Int} (h : ¬ (1 ≤ x ∧ x ≤ n)) : hsB x (n + 1) = false := by simp [hsB]; omega
/-- is it within -/
def inB (n : Nat) (H : Nat → Bool) (x : Int) : Bool := decide (1 ≤ x ∧ x ≤ n) && H x.toNat
theorem in_any (x : Int) (w : World) (h : Ht B w b v n dec st K H) :
    Calls Try.prog 14 #[.pointer (some ⟨b, 0, none⟩), .int .i64 x] w fun e w' => e = .returned (.bool (inB n H x)) ∧ w' = w := by
  by_cases hx : 1 ≤ x ∧ x ≤ n
  · obtain ⟨m, rfl⟩ : ∃ m : Nat, x = m := ⟨x.toNat, by omega⟩
    have H1 := h.has m
    rw [hsB_yes (by omega) (by omega)] at H1
    have H2 := h.holds (x := m) (by omega) (by omega)
    have HE : Hid (H m = inB n H m) := by show _ = _; unfold inB; rw [decide_eq_true hx]; simp
    have H1' : Hid (Calls Try.prog 35 #[.pointer (some ⟨b, 2, none⟩), .int .i64 (m : Int)] w fun e w' => e = .returned (.bool true) ∧ w' = w) := H1
    have H2' : Hid (Calls Try.prog 36 #[.pointer (some ⟨b, 2, none⟩), .int .i64 (m : Int)] w fun e w' => e = .returned (.bool (H m)) ∧ w' = w) := H2
    clear H1 H2 h hx
    generalize inB n H m = r at *
    generalize H m = y at *
    go_enter Try.func14, Try.ntmps14
    go_wp2_with (first | (go_at_call 35; refine H1'.out.mono ?_; rintro e w' ⟨rfl, rfl⟩) | (go_at_call 36; refine H2'.out.mono ?_; rintro e w' ⟨rfl, rfl⟩))
    go_ret
    exact ⟨ret_bool HE.out, rfl⟩
  · have H1 := h.has x
    rw [hsB_no hx] at H1
    have HE : Hid (false = inB n H x) := by show _ = _; unfold inB; rw [decide_eq_false hx]; simp
    have H1' : Hid (Calls Try.prog 35 #[.pointer (some ⟨b, 2, none⟩), .int .i64 x] w fun e w' => e = .returned (.bool false) ∧ w' = w) := H1
    clear H1 h hx
    generalize inB n H x = r at *
    go_enter Try.func14, Try.ntmps14
    go_wp2_with (go_at_call 35; refine H1'.out.mono ?_; rintro e w' ⟨rfl, rfl⟩)
    go_ret
    exact ⟨ret_bool HE.out, rfl⟩
theorem score_no (x : Int) (w : World) (h : Ht B w b v n dec st K H) (hx : ¬ (1 ≤ x ∧ x ≤ n)) :
    Calls Try.prog 15 #[.pointer (some ⟨b, 0, none⟩), .int .i64 x] w fun e w' => e = .returned (.tuple #[.float .f64 0, .int .i64 2]) ∧ w' = w := by
  have H1 := h.has x
  rw [hsB_no hx] at H1
  have H1' : Hid (Calls Try.prog 35 #[.pointer (some ⟨b, 2, none⟩), .int .i64 x] w fun e w' => e = .returned (.bool false) ∧ w' = w) := H1
  clear H1 h hx
  go_enter Try.func15, Try.ntmps15
  go_wp2_with (go_at_call 35; refine H1'.out.mono ?_; rintro e w' ⟨rfl, rfl⟩)
  go_returns
  exact ⟨rfl, rfl⟩
theorem score_yes (m : Nat) (w : World) (h : Ht B w b v n dec st K H) (h1 : 1 ≤ m) (h2 : m ≤ n) :
    Calls Try.prog 15 #[.pointer (some ⟨b, 0, none⟩), .int .i64 (m : Int)] w fun e w' => e = .returned (.tuple #[.float .f64 (gt K m), .int .i64 0]) ∧ w' = w := by
  have H1 := h.has m
  rw [hsB_yes h1 h2] at H1
  have H1' : Hid (Calls Try.prog 35 #[.pointer (some ⟨b, 2, none⟩), .int .i64 (m : Int)] w fun e w' => e = .returned (.bool true) ∧ w' = w) := H1
  obtain ⟨P, R, hz, hb, _, hl⟩ := h.z
  obtain ⟨gK, cK, eK, k1, k2, k3⟩ := row_some hz.k (by rw [h.kl]; omega)
  have eK' : v.K = .slice (some ⟨gK, 0, none⟩) K.length cK := eK
  have b0 : w.cell? ⟨b, 2, none⟩ = some v.K := hz.c0
  rw [eK'] at b0
  have rK := hz.k
  rw [eK] at rK
  have hmk : m < K.length := by rw [h.kl]; omega
  have xK := row_cell rK (f64s_at hmk)
  have hnl := h.nl
  clear H1 h hz hb hl rK eK eK'
  generalize gt K m = y at *
  generalize K.length = NK at *
  go_enter Try.func15, Try.ntmps15
  go_wp2_with (go_at_call 35; refine H1'.out.mono ?_; rintro e w' ⟨rfl, rfl⟩)
  go_returns
  exact ⟨rfl, rfl⟩
theorem put_no (x : Int) (w : World) (h : Ht B w b v n dec st K H) (hx : ¬ (1 ≤ x ∧ x ≤ n)) :
    Calls Try.prog 21 #[.pointer (some ⟨b, 0, none⟩), .int .i64 x] w fun e w' => e = .returned (.int .i64 2) ∧ w' = w := by
  have H1 := h.has x
  rw [hsB_no hx] at H1
  have H1' : Hid (Calls Try.prog 35 #[.pointer (some ⟨b, 2, none⟩), .int .i64 x] w fun e w' => e = .returned (.bool false) ∧ w' = w) := H1
  clear H1 h hx
  go_enter Try.func21, Try.ntmps21
  go_wp2_with (go_at_call 35; refine H1'.out.mono ?_; rintro e w' ⟨rfl, rfl⟩)
  go_ret
  exact ⟨rfl, rfl⟩
theorem put_set (m : Nat) (w : World) (h : Ht B w b v n dec st K H) (h1 : 1 ≤ m) (h2 : m ≤ n) (h0 : H m = true) :
    Calls Try.prog 21 #[.pointer (some ⟨b, 0, none⟩), .int .i64 (m : Int)] w fun e w' => e = .returned (.int .i64 50) ∧ w' = w := by
  have H1 := h.has m
  rw [hsB_yes h1 h2] at H1
  have H2 := h.holds h1 h2
  rw [h0] at H2
  have H1' : Hid (Calls Try.prog 35 #[.pointer (some ⟨b, 2, none⟩), .int .i64 (m : Int)] w fun e w' => e = .returned (.bool true) ∧ w' = w) := H1
  have H2' : Hid (Calls Try.prog 36 #[.pointer (some ⟨b, 2, none⟩), .int .i64 (m : Int)] w fun e w' => e = .returned (.bool true) ∧ w' = w) := H2
  clear H1 H2 h h0
  go_enter Try.func21, Try.ntmps21
  go_wp2_with (first | (go_at_call 35; refine H1'.out.mono ?_; rintro e w' ⟨rfl, rfl⟩) | (go_at_call 36; refine H2'.out.mono ?_; rintro e w' ⟨rfl, rfl⟩))
  go_ret
  exact ⟨rfl, rfl⟩
theorem put_yes (m : Nat) (w : World) (h : Ht B w b v n dec st K H) (h1 : 1 ≤ m) (h2 : m ≤ n) (h0 : H m = false) :
    Calls Try.prog 21 #[.pointer (some ⟨b, 0, none⟩), .int .i64 (m : Int)] w fun e w' => e = .returned (.int .i64 0) ∧ HtS B b v n dec st K (fun u => if u = m then true else H u) w w' := by
  have H1 := h.has m
  rw [hsB_yes h1 h2] at H1
  have H2 := h.holds h1 h2
  rw [h0] at H2
  have H3 := hput_any m w h h1 h2 h0
  have H1' : Hid (Calls Try.prog 35 #[.pointer (some ⟨b, 2, none⟩), .int .i64 (m : Int)] w fun e w' => e = .returned (.bool true) ∧ w' = w) := H1
  have H2' : Hid (Calls Try.prog 36 #[.pointer (some ⟨b, 2, none⟩), .int .i64 (m : Int)] w fun e w' => e = .returned (.bool false) ∧ w' = w) := H2
  have H3' : Hid (Calls Try.prog 39 #[.pointer (some ⟨b, 2, none⟩), .int .i64 (m : Int)] w fun e w' => e = .returned (.tuple #[]) ∧ HtS B b v n dec st K (fun u => if u = m then true else H u) w w') := H3
  clear H1 H2 H3 h h0
  go_enter Try.func21, Try.ntmps21
  go_wp2_with (first | (go_at_call 35; refine H1'.out.mono ?_; rintro e w' ⟨rfl, rfl⟩) | (go_at_call 36; refine H2'.out.mono ?_; rintro e w' ⟨rfl, rfl⟩) | (go_at_call 39; refine H3'.out.mono ?_; rintro e w' ⟨rfl, hl⟩; have HL : Hid _ := hl; clear hl))
  go_ret
  exact ⟨rfl, HL.out⟩
theorem take_no (w : World) (h : Ht B w b v n dec st K H) (hn : ∀ u, 1 ≤ u → u ≤ n → H u = false) :
    Calls Try.prog 20 #[.pointer (some ⟨b, 0, none⟩)] w fun e w' => e = .returned (.tuple #[.int .i64 0, .bool false]) ∧ w' = w := by
  have H1 : Hid (Calls Try.prog 38 #[.pointer (some ⟨b, 2, none⟩)] w fun e w' => e = .returned (.tuple #[.int .i64 0, .bool false]) ∧ w' = w) := htake_no w h hn
  clear h hn
  go_enter Try.func20, Try.ntmps20
  go_wp2_with (go_at_call 38; refine H1.out.mono ?_; rintro e w' ⟨rfl, rfl⟩)
  go_returns
  exact ⟨rfl, rfl⟩
theorem take_yes (t : Nat) (w : World) (h : Ht B w b v n dec st K H) (h1 : 1 ≤ t) (h2 : t ≤ n) (ht : H t = true) (hm : ∀ u, 1 ≤ u → u ≤ n → H u = true → ahd (gt K) u t = false) :
    Calls Try.prog 20 #[.pointer (some ⟨b, 0, none⟩)] w fun e w' => e = .returned (.tuple #[.int .i64 (t : Int), .bool true]) ∧ HtS B b v n dec st K (fun u => if u = t then false else H u) w w' := by
  have H1 : Hid (Calls Try.prog 38 #[.pointer (some ⟨b, 2, none⟩)] w fun e w' => e = .returned (.tuple #[.int .i64 (t : Int), .bool true]) ∧ HtS B b v n dec st K (fun u => if u = t then false else H u) w w') := htake_yes t w h h1 h2 ht hm
  clear h hm ht
  go_enter Try.func20, Try.ntmps20
  go_wp2_with (go_at_call 38; refine H1.out.mono ?_; rintro e w' ⟨rfl, hl⟩; have HL : Hid _ := hl; clear hl)
  go_returns
  exact ⟨rfl, HL.out⟩
end
end Go.Proofs.Ytbfjhgiifmhccaa

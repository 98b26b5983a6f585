/-
  heat: has, holds, ahead.
  KEEP: set on app at below new trans refl start kept mono lt add none own nil put len pos other cell ty blt fz box k p r pr a0 a1 a2 c0 c1 c2 hb setK setP setR unique grown step fin
-/
import Derived.Test.YtbfjhgiifmhccaaHtM
set_option linter.unusedSimpArgs false
set_option linter.unusedVariables false
namespace Go.Proofs.Ytbfjhgiifmhccaa
open Go Go.RowKit

section
variable {B b : Nat} {s : Hs} {K P R : List Nat}
/-- is it one of them -/
def hsB (v : Int) (N : Nat) : Bool := decide (1 ≤ v ∧ v < N)
theorem has_any (v : Int) (w : World) (hz : Hz B w b s K P R) (hK : K.length ≤ 1048577) :
    Calls Try.prog 35 #[.pointer (some ⟨b, s.o, none⟩), .int .i64 v] w fun e w' => e = .returned (.bool (hsB v K.length)) ∧ w' = w := by
  obtain ⟨a, c, eK⟩ := row_form' hz.k
  have b0 := hz.c0
  rw [eK] at b0
  clear hz eK
  generalize s.o = o at *
  obtain ⟨N, hN⟩ : ∃ N : Nat, K.length = N := ⟨_, rfl⟩
  rw [hN] at b0 hK ⊢
  clear hN
  by_cases h1 : 1 ≤ v
  · have HE : Hid (decide (v < N) = hsB v N) := by show _ = _; simp [hsB, h1]
    go_enter Try.func35, Try.ntmps35
    go_wp2
    go_ret
    exact ⟨ret_bool HE.out, rfl⟩
  · have HE : Hid (false = hsB v N) := by show _ = _; simp [hsB, h1]
    go_enter Try.func35, Try.ntmps35
    go_wp2
    go_ret
    exact ⟨ret_bool HE.out, rfl⟩
theorem holds_any (v : Nat) (w : World) (hz : Hz B w b s K P R) (hv : v < P.length) :
    Calls Try.prog 36 #[.pointer (some ⟨b, s.o, none⟩), .int .i64 (v : Int)] w fun e w' => e = .returned (.bool (decide (gt P v ≠ 0))) ∧ w' = w := by
  obtain ⟨gP, cP, eP, j1, j2, j3⟩ := row_some hz.p (by omega)
  have b1 := hz.c1
  have rP := hz.p
  rw [eP] at b1 rP
  have xP := row_cell rP (i32n_at hv)
  clear hz eP rP
  generalize s.o = o at *
  generalize P.length = N at *
  generalize gt P v = x at *
  have HE : Hid ((!((x : Int) == 0)) = decide (x ≠ 0)) := by
    show _ = _
    by_cases h : x = 0
    · subst h; rfl
    · have : ((x : Int) == 0) = false := by simpa using h
      rw [this]; simp [h]
  go_enter Try.func36, Try.ntmps36
  go_wp2
  go_ret
  exact ⟨ret_bool HE.out, rfl⟩
/-- all keys are such floats -/
def Fin (K : List Nat) : Prop := ∀ k, gt K k ≤ infR
theorem ord_neq {x y : Nat} (hx : x ≤ infR) (hy : y ≤ infR) : (FloatKind.f64.format.order x y != some .eq) = decide (x ≠ y) := by
  show (Ieee.double.order x y != some .eq) = _
  rw [ord_word hx hy]
  rcases Nat.lt_trichotomy x y with h | h | h
  · rw [Nat.compare_eq_lt.2 h, decide_eq_true (by omega : x ≠ y)]; rfl
  · subst h; rw [Nat.compare_eq_eq.2 rfl]; simp
  · rw [Nat.compare_eq_gt.2 h, decide_eq_true (by omega : x ≠ y)]; rfl
theorem ord_gtr {x y : Nat} (hx : x ≤ infR) (hy : y ≤ infR) : (FloatKind.f64.format.order x y == some .gt) = decide (y < x) := by
  show (Ieee.double.order x y == some .gt) = _
  rw [ord_word hx hy]
  rcases Nat.lt_trichotomy x y with h | h | h
  · rw [Nat.compare_eq_lt.2 h]; simp; omega
  · subst h; rw [Nat.compare_eq_eq.2 rfl]; simp
  · rw [Nat.compare_eq_gt.2 h]; simp; omega
theorem ahead_q (u v : Nat) (w : World) (hz : Hz B w b s K P R) (hf : Fin K) (hu : u < K.length) (hv : v < K.length) (hK : K.length ≤ 1048577) :
    Calls Try.prog 49 #[.pointer (some ⟨b, s.o, none⟩), .int .i32 (u : Int), .int .i32 (v : Int)] w fun e w' => e = .returned (.bool (ahd (gt K) u v)) ∧ ∃ m, w' = w.drewN m := by
  obtain ⟨gK, cK, eK, j1, j2, j3⟩ := row_some hz.k (by omega)
  have b0 := hz.c0
  have rK := hz.k
  rw [eK] at b0 rK
  have xu := row_cell rK (f64s_at hu)
  have xv := row_cell rK (f64s_at hv)
  have hne := ord_neq (hf u) (hf v)
  have hgt := ord_gtr (hf u) (hf v)
  have hpu := wr32 (z := u) (by omega)
  have hpv := wr32 (z := v) (by omega)
  clear hz eK rK
  by_cases h : gt K u = gt K v
  · have HE : Hid (decide (u < v) = ahd (gt K) u v) := by show _ = _; simp [ahd, h]
    have hq : (FloatKind.f64.format.order (gt K u) (gt K v) != some .eq) = false := by rw [hne]; simp [h]
    generalize hb : ahd (gt K) u v = bb at *
    clear hne hgt h hf hb
    generalize s.o = o at *
    generalize K.length = N at *
    generalize gt K u = x at *
    generalize gt K v = y at *
    go_enter Try.func49, Try.ntmps49
    go_wp2_with fail
    go_quiet (fail)
    go_wp2
    go_ret
    exact ⟨ret_bool HE.out, _, rfl⟩
  · have HE : Hid (decide (gt K v < gt K u) = ahd (gt K) u v) := by show _ = _; simp [ahd, h]
    have hq : (FloatKind.f64.format.order (gt K u) (gt K v) != some .eq) = true := by rw [hne]; simp [h]
    generalize hb : ahd (gt K) u v = bb at *
    clear hne h hf hb
    generalize s.o = o at *
    generalize K.length = N at *
    generalize gt K u = x at *
    generalize gt K v = y at *
    go_enter Try.func49, Try.ntmps49
    go_wp2_with fail
    go_quiet (fail)
    go_wp2_with fail
    go_quiet (fail)
    go_wp2
    go_ret
    exact ⟨ret_bool HE.out, _, World.drewN_drewN ..⟩
theorem ahead_any (u v : Nat) (w : World) (hz : Hz B w b s K P R) (hf : Fin K) (hu : u < K.length) (hv : v < K.length) (hK : K.length ≤ 1048577) :
    Calls Try.prog 49 #[.pointer (some ⟨b, s.o, none⟩), .int .i32 (u : Int), .int .i32 (v : Int)] w fun e w' => e = .returned (.bool (ahd (gt K) u v)) ∧ Below w.heap.size w w' :=
  (ahead_q u v w hz hf hu hv hK).mono fun e w' ⟨h, m, hm⟩ => ⟨h, by rw [hm]; exact below_drewN _ _⟩
end
end Go.Proofs.Ytbfjhgiifmhccaa

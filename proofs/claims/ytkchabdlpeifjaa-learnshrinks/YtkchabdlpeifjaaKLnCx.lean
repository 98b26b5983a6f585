/-
  learn: ContainsFunc of lacks; covered.
  KEEP: len below nil form rd mono one more grown lt size cell some none of ofNat add out step row get at mk new made look put del kept drew alloc has same other map rde take lit lev lstB pre ws cells bnd on start app set box bel rz tidy ms reason c f
-/
import Derived.Test.YtkchabdlpeifjaaKLnCw
set_option linter.unusedSimpArgs false
set_option linter.unusedVariables false
namespace Go.Proofs.Ytkchabdlpeifjaa
open Go Go.RowKit
theorem CvS.trans {w0 W W' W'' : World} {X : Nat} {a : Option Addr} {t : List Ent} {c g gs ns : Nat} {cl : List Int} {M M' : Int → Option Nat} {p : Nat} (hg : W.grownBy W' (some (X + 3))) (hM : ∀ r : Int, (p : Int) ≤ r → M' r = M r) (h : CvS w0 W' W'' X a t c g gs ns cl M' p) : CvS w0 W W'' X a t c g gs ns cl M p := by
  obtain ⟨M2, h1, h2, h3, h4, h5⟩ := h
  exact ⟨M2, h1, h2, h3, fun r hr => (h4 r hr).trans (hM r hr), World.grownBy.trans hg h5⟩
/-- what lacks says -/
def lkB (t : List Ent) (cl : List Int) (lt x : Int) : Bool := !(x == lt || cl.contains x || lvl t x == 0 || covB t (fun x => cl.contains x) (plN t x))
theorem any_more (q : Int → Bool) (zs : List Int) (k : Nat) (h : k < zs.length) : (zs.take (k + 1)).any q = ((zs.take k).any q || q (zs.getD k 0)) := by
  rw [take_succ_getD zs 0 k h, List.any_append]; simp
theorem any_yes {q : Int → Bool} {zs : List Int} {k : Nat} (h : k < zs.length) (hq : q (zs.getD k 0) = true) : zs.any q = true := List.any_eq_true.2 ⟨_, getD_mem' h, hq⟩
set_option maxRecDepth 100000 in
set_option maxHeartbeats 3200000 in
theorem indexF_any (w0 W : World) (X : Nat) (a : Option Addr) (t : List Ent) (c g gs ns : Nat) (cl : List Int) (M : Int → Option Nat) (p LB : Nat) (u : Value) (rs : List Int) (lt : Int) (h : Cv w0 W X a t c g gs ns cl M) (hi : InP t M) (hr : Rgt t (fun x => cl.contains x) M p) (hIH : ∀ q, q < p → CvC w0 X a t c g gs ns cl q)
    (hlb : Bo1 W LB 3 (.int .i64 lt)) (hLX : X + 5 < LB) (hu : Rd w0 u rs) (hx : ∀ x ∈ rs, x ≠ lt → isF t x = true ∧ plN t x < p) :
    Calls Try.prog 62 #[u, .func (.func 56) #[] #[.pointer (some ⟨LB, 0, none⟩), .pointer (some ⟨X + 2, 0, none⟩), .pointer (some ⟨X + 5, 0, none⟩), .pointer (some ⟨X, 0, none⟩)]] W fun e w' => ∃ r : Int, e = .returned (.int .i64 r) ∧ decide (0 ≤ r) = rs.any (lkB t cl lt) ∧ CvS w0 W w' X a t c g gs ns cl M p := by
  have hl := hu.len
  have HU : Hid (Rd w0 u rs) := hu
  obtain ⟨ua, uc, rfl, huc, hum, _⟩ := hu.form
  have HS : Hid (CvS w0 W W X a t c g gs ns cl M p) := CvS.same h hi hr (Below.refl _ _)
  have HIH : Hid (∀ q, q < p → CvC w0 X a t c g gs ns cl q) := hIH
  have HLB : Hid (Bo1 W LB 3 (.int .i64 lt)) := hlb
  have HX : Hid (∀ x ∈ rs, x ≠ lt → isF t x = true ∧ plN t x < p) := hx
  clear h hi hr hIH hlb hu hx
  go_enter Try.func62, Try.ntmps62
  go_wp2_with fail
  go_loopg [8] rs.length (fun g' i wr => ∃ k : Nat, k + g' = rs.length ∧ i = .int .i64 k ∧ (rs.take k).any (lkB t cl lt) = false ∧ Hid (CvS w0 W wr X a t c g gs ns cl M p))
  case atStart => exact ⟨0, by omega, rfl, rfl, HS.out⟩
  case round =>
    obtain ⟨k, hk, rfl, hall, HC⟩ := hrel
    have HK : Hid (k + gk = rs.length) := hk
    have HA : Hid ((rs.take k).any (lkB t cl lt) = false) := hall
    clear hall
    by_cases hlt : k < rs.length
    · obtain ⟨M1, m1, m2, m3, m4, m5⟩ := HC.out
      obtain ⟨ua', uc', e', _, _, hcell⟩ := (HU.out.below (by rw [m1.eX]; exact m1.bel)).form
      injection e' with q1 q2 q3
      subst q1 q3
      obtain ⟨b2, off2, rfl, hck⟩ := hcell k hlt
      have hmem := getD_mem' (l := rs) (k := k) (d := 0) hlt
      have HM := any_more (lkB t cl lt) rs k hlt
      have HLk : Hid (Calls Try.prog 56 #[.int .i64 (rs.getD k 0), .pointer (some ⟨LB, 0, none⟩), .pointer (some ⟨X + 2, 0, none⟩), .pointer (some ⟨X + 5, 0, none⟩), .pointer (some ⟨X, 0, none⟩)] wr fun e w' => e = .returned (.bool (lkB t cl lt (rs.getD k 0))) ∧ CvS w0 W w' X a t c g gs ns cl M p) := (lacks_any w0 wr X a t c g gs ns cl M1 p LB (rs.getD k 0) lt m1 m2 m3 HIH.out (HLB.out.kept m5 (by simp; omega)) hLX (HX.out _ hmem)).mono fun e w' ⟨h1, h2⟩ => ⟨h1, CvS.trans m5 m4 h2⟩
      have HN : Hid (lkB t cl lt (rs.getD k 0) = true → rs.any (lkB t cl lt) = true) := fun h => any_yes hlt h
      have HM2 : Hid (lkB t cl lt (rs.getD k 0) = false → (rs.take (k + 1)).any (lkB t cl lt) = false) := fun h => by rw [HM, HA.out, h]; rfl
      clear hk hcell hmem HM m1 m2 m3 m4 m5
      generalize rs.getD k 0 = y at *
      generalize lkB t cl lt y = yb at *
      cases yb
      · have HT : Hid ((rs.take (k + 1)).any (lkB t cl lt) = false) := HM2.out rfl
        clear HN HM2
        go_wp2_with (go_at_call 56; refine HLk.out.mono ?_; rintro e w2 ⟨rfl, h2⟩; have H2 : Hid (CvS w0 W w2 X a t c g gs ns cl M p) := h2; clear h2)
        go_roundg (gk - 1)
        case measure => have := HK.out; omega
        case rel => exact ⟨k + 1, by have := HK.out; omega, by go_num, HT.out, H2.out⟩
      · have HT : Hid (rs.any (lkB t cl lt) = true) := HN.out rfl
        clear HN HM2
        go_wp2_with (go_at_call 56; refine HLk.out.mono ?_; rintro e w2 ⟨rfl, h2⟩; have H2 : Hid (CvS w0 W w2 X a t c g gs ns cl M p) := h2; clear h2)
        go_ret
        exact ⟨(k : Int), rfl, by rw [HT.out]; simp, H2.out⟩
    · obtain rfl : k = rs.length := by omega
      have HE : Hid (rs.any (lkB t cl lt) = false) := by have := HA.out; rw [List.take_length] at this; exact this
      clear hk
      go_wp2
      go_ret
      exact ⟨-1, rfl, by rw [HE.out]; rfl, HC.out⟩
set_option maxHeartbeats 3200000 in
theorem containsF_any (w0 W : World) (X : Nat) (a : Option Addr) (t : List Ent) (c g gs ns : Nat) (cl : List Int) (M : Int → Option Nat) (p LB : Nat) (u : Value) (rs : List Int) (lt : Int) (h : Cv w0 W X a t c g gs ns cl M) (hi : InP t M) (hr : Rgt t (fun x => cl.contains x) M p) (hIH : ∀ q, q < p → CvC w0 X a t c g gs ns cl q)
    (hlb : Bo1 W LB 3 (.int .i64 lt)) (hLX : X + 5 < LB) (hu : Rd w0 u rs) (hx : ∀ x ∈ rs, x ≠ lt → isF t x = true ∧ plN t x < p) :
    Calls Try.prog 57 #[u, .func (.func 56) #[] #[.pointer (some ⟨LB, 0, none⟩), .pointer (some ⟨X + 2, 0, none⟩), .pointer (some ⟨X + 5, 0, none⟩), .pointer (some ⟨X, 0, none⟩)]] W fun e w' => e = .returned (.bool (rs.any (lkB t cl lt))) ∧ CvS w0 W w' X a t c g gs ns cl M p := by
  have HI := indexF_any w0 W X a t c g gs ns cl M p LB u rs lt h hi hr hIH hlb hLX hu hx
  have HI2 : Hid (Calls Try.prog 62 #[u, .func (.func 56) #[] #[.pointer (some ⟨LB, 0, none⟩), .pointer (some ⟨X + 2, 0, none⟩), .pointer (some ⟨X + 5, 0, none⟩), .pointer (some ⟨X, 0, none⟩)]] W fun e w' => ∃ r : Int, e = .returned (.int .i64 r) ∧ decide (0 ≤ r) = rs.any (lkB t cl lt) ∧ CvS w0 W w' X a t c g gs ns cl M p) := HI
  clear HI h hi hr hIH hlb hu hx
  go_enter Try.func57, Try.ntmps57
  go_wp2_with (go_at_call 62; refine HI2.out.mono ?_; rintro e w2 ⟨r, rfl, hd, h2⟩; have H2 : Hid (CvS w0 W w2 X a t c g gs ns cl M p) := h2; have HD : Hid (decide (0 ≤ r) = rs.any (lkB t cl lt)) := hd; clear h2 hd)
  go_ret
  exact ⟨ret_bool HD.out, H2.out⟩
end Go.Proofs.Ytkchabdlpeifjaa

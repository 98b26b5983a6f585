/-
  learn: given, lacks, covered.
  KEEP: len below nil form rd mono one more grown lt size cell some none of ofNat add out step row get at mk new made look put del kept drew alloc has same other map rde take lit lev lstB pre ws cells bnd on start app set box bel rz tidy ms reason c f
-/
import Derived.Test.YtkchabdlpeifjaaJLnK
import Derived.Test.YtkchabdlpeifjaaQuietX
import Derived.Sort.QuietTacIn
set_option linter.unusedSimpArgs false
set_option linter.unusedVariables false
namespace Go.Proofs.Ytkchabdlpeifjaa
open Go Go.RowKit
set_option maxRecDepth 100000 in
set_option maxHeartbeats 3200000 in
theorem given_any (w0 W : World) (X : Nat) (a : Option Addr) (t : List Ent) (c g gs ns : Nat) (cl : List Int) (M : Int → Option Nat) (x : Int) (h : Cv w0 W X a t c g gs ns cl M) (hx : isF t x = true) :
    Calls Try.prog 54 #[.int .i64 x, .pointer (some ⟨X + 1, 0, none⟩), .pointer (some ⟨X, 0, none⟩)] W fun e w' => e = .returned (.bool (cl.contains x || lvl t x == 0)) ∧ Below W.heap.size W w' := by
  have hfx := (h.rz.ws.isF_at hx).1
  have hpx := (h.rz.ws.isF_at hx).2.2.2.2
  have hxr := fmd_range hfx
  have hlk := h.st.look (x := x) (by omega) (by omega)
  have HLv : Hid (Calls Try.prog 50 #[rV a t.length c g, .int .i64 x] W fun e w' => e = .returned (.int .i64 (lvl t x)) ∧ Below W.heap.size W w') := level_any a t t c g x W h.rz (by rw [h.rz.ws.plc_vpl hfx hpx]; rfl)
  have b0 := h.box.c0
  have b1 := h.box.c1
  have b2 := h.sb.c
  rw [fsI_some] at hlk
  generalize (fsI cl x).getD 0 = fv at *
  clear h hx hfx hpx
  cases hc : cl.contains x
  · rw [hc] at hlk
    generalize lvl t x = lx at *
    go_enter Try.func54, Try.ntmps54
    go_wp2_with (go_at_call 50; refine HLv.out.mono ?_; rintro e w' ⟨rfl, bE⟩)
    go_ret
    exact ⟨rfl, bE⟩
  · rw [hc] at hlk
    clear HLv
    go_enter Try.func54, Try.ntmps54
    go_wp2_with fail
    go_ret
    exact ⟨rfl, Below.refl _ _⟩
/-- the marks are right below p -/
def Rgt (t : List Ent) (S : Int → Bool) (M : Int → Option Nat) (p : Nat) : Prop := ∀ r : Nat, r < p → ∀ m, M (r : Int) = some m → m = if covB t S r then 2 else 1
def InP (t : List Ent) (M : Int → Option Nat) : Prop := ∀ q, (M q).isSome = true → 0 ≤ q ∧ q < (t.length : Int)
/-- what a call leaves that settles places below p alone -/
def CvS (w0 W W' : World) (X : Nat) (a : Option Addr) (t : List Ent) (c g gs ns : Nat) (cl : List Int) (M : Int → Option Nat) (p : Nat) : Prop :=
  ∃ M', Cv w0 W' X a t c g gs ns cl M' ∧ InP t M' ∧ Rgt t (fun x => cl.contains x) M' p ∧ (∀ r : Int, (p : Int) ≤ r → M' r = M r) ∧ W.grownBy W' (some (X + 3))
/-- the contract of covered at a place -/
def CvC (w0 : World) (X : Nat) (a : Option Addr) (t : List Ent) (c g gs ns : Nat) (cl : List Int) (p : Nat) : Prop :=
  ∀ (W : World) (M : Int → Option Nat), Cv w0 W X a t c g gs ns cl M → InP t M → Rgt t (fun x => cl.contains x) M (p + 1) →
    Calls Try.prog 55 #[.int .i64 (p : Int), .pointer (some ⟨X + 4, 0, none⟩), .pointer (some ⟨X, 0, none⟩), .pointer (some ⟨X + 2, 0, none⟩), .pointer (some ⟨X + 5, 0, none⟩)] W fun e w' => e = .returned (.bool (covB t (fun x => cl.contains x) p)) ∧ CvS w0 W w' X a t c g gs ns cl M (p + 1)
section
variable {w0 W W' W'' : World} {X : Nat} {a : Option Addr} {t : List Ent} {c g gs ns : Nat} {cl : List Int} {M : Int → Option Nat} {p q : Nat}
theorem CvS.same (h : Cv w0 W X a t c g gs ns cl M) (hi : InP t M) (hr : Rgt t (fun x => cl.contains x) M p) (hb : Below W.heap.size W W') : CvS w0 W W' X a t c g gs ns cl M p := ⟨M, h.below hb, hi, hr, fun _ _ => rfl, (grown_below hb).but _⟩
/-- a call that settles places below q ≤ p -/
theorem CvS.wide (hr : Rgt t (fun x => cl.contains x) M p) (hb : Below W.heap.size W W') (h : CvS w0 W' W'' X a t c g gs ns cl M q) (hq : q ≤ p) : CvS w0 W W'' X a t c g gs ns cl M p := by
  obtain ⟨M', h1, h2, h3, h4, h5⟩ := h
  refine ⟨M', h1, h2, fun r hrp m hm => ?_, fun r hrr => h4 r (by omega), World.grownBy.trans ((grown_below hb).but _) h5⟩
  by_cases e : r < q
  · exact h3 r e m hm
  · rw [h4 _ (by omega)] at hm
    exact hr r hrp m hm
end
set_option maxRecDepth 100000 in
set_option maxHeartbeats 3200000 in
theorem lacks_any (w0 W : World) (X : Nat) (a : Option Addr) (t : List Ent) (c g gs ns : Nat) (cl : List Int) (M : Int → Option Nat) (p LB : Nat) (x lt : Int) (h : Cv w0 W X a t c g gs ns cl M) (hi : InP t M) (hr : Rgt t (fun x => cl.contains x) M p) (hIH : ∀ q, q < p → CvC w0 X a t c g gs ns cl q)
    (hlb : Bo1 W LB 3 (.int .i64 lt)) (hLX : X + 5 < LB) (hx : x ≠ lt → isF t x = true ∧ plN t x < p) :
    Calls Try.prog 56 #[.int .i64 x, .pointer (some ⟨LB, 0, none⟩), .pointer (some ⟨X + 2, 0, none⟩), .pointer (some ⟨X + 5, 0, none⟩), .pointer (some ⟨X, 0, none⟩)] W fun e w' => e = .returned (.bool (!(x == lt || cl.contains x || lvl t x == 0 || covB t (fun x => cl.contains x) (plN t x)))) ∧ CvS w0 W w' X a t c g gs ns cl M p := by
  have b0 := h.box.c0
  have b1 := h.box.c1
  have b2 := h.gf.c
  have b3 := h.cf.c
  have b4 := hlb.c
  have HH : Hid (Cv w0 W X a t c g gs ns cl M) := h
  have HI : Hid (InP t M) := hi
  have HRg : Hid (Rgt t (fun x => cl.contains x) M p) := hr
  by_cases he : x = lt
  · have HE : Hid ((!(x == lt || cl.contains x || lvl t x == 0 || covB t (fun x => cl.contains x) (plN t x))) = false) := by show _ = _; rw [he]; simp
    have hxb : (x != lt) = false := by rw [he]; simp
    rw [HE.out]
    clear h hi hr hIH hlb hx HE
    go_enter Try.func56, Try.ntmps56
    go_upto_region 1 with fail
    go_quiet (fail)
    go_wp2_with fail
    go_ret
    exact ⟨rfl, CvS.same HH.out HI.out HRg.out (below_drewN _ _)⟩
  obtain ⟨hxF, hxp⟩ := hx he
  have hxb : (x != lt) = true := by simpa using he
  have HGv : Hid (∀ W', Below W.heap.size W W' → Calls Try.prog 54 #[.int .i64 x, .pointer (some ⟨X + 1, 0, none⟩), .pointer (some ⟨X, 0, none⟩)] W' fun e w' => e = .returned (.bool (cl.contains x || lvl t x == 0)) ∧ Below W'.heap.size W' w') := fun W' hW => given_any w0 W' X a t c g gs ns cl M x (HH.out.below hW) hxF
  have HBs : Hid (∀ W', Below W.heap.size W W' → W'.cell? ⟨X, 0, none⟩ = some (.slice a t.length c) ∧ W'.cell? ⟨X, 1, none⟩ = some (.map (some g)) ∧ W'.cell? ⟨X + 2, 0, none⟩ = some (gvV X) ∧ W'.cell? ⟨X + 5, 0, none⟩ = some (cvV X) ∧ W'.cell? ⟨LB, 0, none⟩ = some (.int .i64 lt)) := fun W' hW => by
    have q := HH.out.below hW
    exact ⟨q.box.c0, q.box.c1, q.gf.c, q.cf.c, (hlb.below hW).c⟩
  cases hg : (cl.contains x || lvl t x == 0)
  case true =>
    have HE : Hid ((!(x == lt || cl.contains x || lvl t x == 0 || covB t (fun x => cl.contains x) (plN t x))) = false) := by
      show _ = _
      rw [Bool.or_assoc (x == lt), hg]; simp
    rw [HE.out]
    rw [hg] at HGv
    clear h hi hr hIH hlb hx HE hg he hxF hxp
    go_enter Try.func56, Try.ntmps56
    go_upto_region 1 with fail
    haveI hne := xt_ne W
    have y0 := Wx.cell b0
    have y1 := Wx.cell b1
    have y2 := Wx.cell b2
    have y3 := Wx.cell b3
    have y4 := Wx.cell b4
    have HQx : Hid (∀ x', Calls Try.prog 54 #[.int .i64 x, .pointer (some ⟨X + 1, 0, none⟩), .pointer (some ⟨X, 0, none⟩)] (Wx W x') fun e w'' => e = .returned (.bool true) ∧ ∃ y, w'' = Wx W y) := fun x' => (HGv.out (Wx W x') x'.be).mono fun e w' ⟨q1, q2⟩ => ⟨q1, ⟨w', Below.step x'.be q2⟩, rfl⟩
    clear b0 b1 b2 b3 b4 HGv HBs
    refine (wpIn_wide (n := 1)).1 ?_
    refine region_quietX (by kernel_rfl) (by kernel_rfl) (by kernel_rfl) ?_
    repeat (refine wpQuietIn_step (fun _ _ _ _ => trivial) (fun Kqz hKqz => ?_); go_simp; first | (refine hKqz _ ?_; clear hKqz Kqz) | (apply Exists.intro; refine ⟨fun _ => ?_, hKqz _ ?_⟩; (gi_at_call 54; with_reducible exact callsIn_wide.2 (HQx.out _)); clear hKqz Kqz))
    refine wpQuietIn_nil ?_
    intro _ hwq1
    obtain ⟨xq, hwq2⟩ := hwq1
    subst hwq2
    have HB9 : Hid (Below W.heap.size W (Wx W xq)) := xq.be
    clear y0 y1 y2 y3 y4 HQx
    generalize Wx W xq = W9 at *
    go_wp2_with fail
    go_ret
    exact ⟨rfl, CvS.same HH.out HI.out HRg.out HB9.out⟩
  case false =>
    obtain ⟨CB, hCB⟩ : ∃ CB, covB t (fun x => cl.contains x) (plN t x) = CB := ⟨_, rfl⟩
    have HE : Hid ((!(x == lt || cl.contains x || lvl t x == 0 || covB t (fun x => cl.contains x) (plN t x))) = !CB) := by
      show _ = _
      rw [Bool.or_assoc (x == lt), hg, hCB, show (x == lt) = false by simpa using he]; rfl
    rw [HE.out]
    rw [hg] at HGv
    have HPl : Hid (∀ W', Below W.heap.size W W' → Calls Try.prog 42 #[rV a t.length c g, .int .i64 x] W' fun e w' => e = .returned (.int .i64 (plN t x : Int)) ∧ Below W'.heap.size W' w') := fun W' hW => place_any a t t c g x W' (HH.out.below hW).rz
    have HCv : Hid (∀ W', Below W.heap.size W W' → Calls Try.prog 55 #[.int .i64 (plN t x : Int), .pointer (some ⟨X + 4, 0, none⟩), .pointer (some ⟨X, 0, none⟩), .pointer (some ⟨X + 2, 0, none⟩), .pointer (some ⟨X + 5, 0, none⟩)] W' fun e w' => e = .returned (.bool CB) ∧ CvS w0 W w' X a t c g gs ns cl M p) := fun W' hW => by
      have q := hIH (plN t x) hxp W' M (HH.out.below hW) HI.out (fun r hr' m hm => HRg.out r (by omega) m hm)
      rw [hCB] at q
      exact q.mono fun e w' ⟨h1, h2⟩ => ⟨h1, CvS.wide HRg.out hW h2 (by omega)⟩
    clear h hi hr hIH hx HE hg he hCB hxF
    generalize plN t x = px at *
    have HBs2 : Hid (∀ w', CvS w0 W w' X a t c g gs ns cl M p → w'.cell? ⟨X, 0, none⟩ = some (.slice a t.length c) ∧ w'.cell? ⟨X, 1, none⟩ = some (.map (some g)) ∧ w'.cell? ⟨X + 2, 0, none⟩ = some (gvV X) ∧ w'.cell? ⟨X + 5, 0, none⟩ = some (cvV X) ∧ w'.cell? ⟨LB, 0, none⟩ = some (.int .i64 lt)) := fun w' hS => by
      obtain ⟨M', q, _, _, _, q5⟩ := hS
      exact ⟨q.box.c0, q.box.c1, q.gf.c, q.cf.c, (hlb.kept q5 (by simp; omega)).c⟩
    clear hlb
    go_enter Try.func56, Try.ntmps56
    go_upto_region 1 with fail
    go_region_law (go_simp; first
      | (go_at_call 54; refine (HGv.out _ (Below.refl _ _).drew).mono ?_; rintro e w2 ⟨rfl, bE⟩; have K1 : Hid (Below W.heap.size W w2) := Below.step (Below.refl _ _).drew bE; obtain ⟨k0, k1, k2, k3, k4⟩ := HBs.out w2 K1.out; clear bE; dsimp only)
      | (go_at_call 42; refine (HPl.out _ K1.out).mono ?_; rintro e w3 ⟨rfl, bE⟩; have K2 : Hid (Below W.heap.size W w3) := Below.step K1.out bE; obtain ⟨l0, l1, l2, l3, l4⟩ := HBs.out w3 K2.out; clear bE; dsimp only)
      | (go_at_call 55; refine (HCv.out _ K2.out).mono ?_; rintro e w4 ⟨rfl, bE⟩; have K3 : Hid (CvS w0 W w4 X a t c g gs ns cl M p) := bE; clear bE; dsimp only))
    all_goals
      go_wp2_with fail
      go_ret
      exact ⟨rfl, K3.out⟩
end Go.Proofs.Ytkchabdlpeifjaa

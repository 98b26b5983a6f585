/-
  joined: LnCw LnCx LnCy LnCg LnCs LnCt
-/
import Derived.Test.YtgngdohhlhlcpaaJLnV
import Derived.Test.YtgngdohhlhlcpaaQuietX
import Derived.Sort.QuietTacIn
set_option linter.unusedSimpArgs false
set_option linter.unusedVariables false
namespace Go.Proofs.Ytgngdohhlhlcpaa
open Go Go.RowKit
set_option maxRecDepth 100000 in
set_option maxHeartbeats 3200000 in
theorem given_any (w0 W : World) (X : Nat) (a : Option Addr) (t : List Ent) (c g gs ns : Nat) (cl : List Int) (M : Int → Option Nat) (x : Int) (h : Cv w0 W X a t c g gs ns cl M) (hx : isF t x = true) :
    Calls Try.prog 50 #[.int .i64 x, .pointer (some ⟨X + 1, 0, none⟩), .pointer (some ⟨X, 0, none⟩)] W fun e w' => e = .returned (.bool (cl.contains x || lvl t x == 0)) ∧ Below W.heap.size W w' := by
  have hfx := (h.rz.ws.isF_at hx).1
  have hpx := (h.rz.ws.isF_at hx).2.2.2.2
  have hxr := fmd_range hfx
  have hlk := h.st.look (x := x) (by omega) (by omega)
  have HLv : Hid (Calls Try.prog 47 #[rV a t.length c g, .int .i64 x] W fun e w' => e = .returned (.int .i64 (lvl t x)) ∧ Below W.heap.size W w') := level_any a t t c g x W h.rz (by rw [h.rz.ws.plc_vpl hfx hpx]; rfl)
  have b0 := h.box.c0
  have b1 := h.box.c1
  have b2 := h.sb.c
  rw [fsI_some] at hlk
  generalize (fsI cl x).getD 0 = fv at *
  clear h hx hfx hpx
  cases hc : cl.contains x
  · rw [hc] at hlk
    generalize lvl t x = lx at *
    go_enter Try.func50, Try.ntmps50
    go_wp2_with (go_at_call 47; refine HLv.out.mono ?_; rintro e w' ⟨rfl, bE⟩)
    go_ret
    exact ⟨rfl, bE⟩
  · rw [hc] at hlk
    clear HLv
    go_enter Try.func50, Try.ntmps50
    go_wp2_with fail
    go_ret
    exact ⟨rfl, Below.refl _ _⟩
/-- the marks are right below p -/
def Rgt (t : List Ent) (S : Int → Bool) (M : Int → Option Nat) (p : Nat) : Prop := ∀ r : Nat, r < p → ∀ m, M (r : Int) = some m → m = if covB t S r then 2 else 1
def InP (t : List Ent) (M : Int → Option Nat) : Prop := ∀ q, (M q).isSome = true → 0 ≤ q ∧ q < (t.length : Int)
/-- what a call leaves that settles places below p alone -/
def CvS (w0 W W' : World) (X : Nat) (a : Option Addr) (t : List Ent) (c g gs ns : Nat) (cl : List Int) (M : Int → Option Nat) (p : Nat) : Prop :=
  ∃ M', Cv w0 W' X a t c g gs ns cl M' ∧ InP t M' ∧ Rgt t (fun x => cl.contains x) M' p ∧ (∀ r : Int, (p : Int) ≤ r → M' r = M r) ∧ W.grownBy W' (some (X + 3))
/-- the contract of covered at a place -/
def CvC (w0 : World) (X : Nat) (a : Option Addr) (t : List Ent) (c g gs ns : Nat) (cl : List Int) (p : Nat) : Prop :=
  ∀ (W : World) (M : Int → Option Nat), Cv w0 W X a t c g gs ns cl M → InP t M → Rgt t (fun x => cl.contains x) M (p + 1) →
    Calls Try.prog 51 #[.int .i64 (p : Int), .pointer (some ⟨X + 4, 0, none⟩), .pointer (some ⟨X, 0, none⟩), .pointer (some ⟨X + 2, 0, none⟩), .pointer (some ⟨X + 5, 0, none⟩)] W fun e w' => e = .returned (.bool (covB t (fun x => cl.contains x) p)) ∧ CvS w0 W w' X a t c g gs ns cl M (p + 1)
section
variable {w0 W W' W'' : World} {X : Nat} {a : Option Addr} {t : List Ent} {c g gs ns : Nat} {cl : List Int} {M : Int → Option Nat} {p q : Nat}
theorem CvS.same (h : Cv w0 W X a t c g gs ns cl M) (hi : InP t M) (hr : Rgt t (fun x => cl.contains x) M p) (hb : Below W.heap.size W W') : CvS w0 W W' X a t c g gs ns cl M p := ⟨M, h.below hb, hi, hr, fun _ _ => rfl, (grown_below hb).but _⟩
/-- a call that settles places below q ≤ p -/
theorem CvS.wide (hr : Rgt t (fun x => cl.contains x) M p) (hb : Below W.heap.size W W') (h : CvS w0 W' W'' X a t c g gs ns cl M q) (hq : q ≤ p) : CvS w0 W W'' X a t c g gs ns cl M p := by
  obtain ⟨M', h1, h2, h3, h4, h5⟩ := h
  refine ⟨M', h1, h2, fun r hrp m hm => ?_, fun r hrr => h4 r (by omega), World.grownBy.trans ((grown_below hb).but _) h5⟩
  by_cases e : r < q
  · exact h3 r e m hm
  · rw [h4 _ (by omega)] at hm
    exact hr r hrp m hm
end
set_option maxRecDepth 100000 in
set_option maxHeartbeats 3200000 in
theorem lacks_any (w0 W : World) (X : Nat) (a : Option Addr) (t : List Ent) (c g gs ns : Nat) (cl : List Int) (M : Int → Option Nat) (p LB : Nat) (x lt : Int) (h : Cv w0 W X a t c g gs ns cl M) (hi : InP t M) (hr : Rgt t (fun x => cl.contains x) M p) (hIH : ∀ q, q < p → CvC w0 X a t c g gs ns cl q)
    (hlb : Bo1 W LB 3 (.int .i64 lt)) (hLX : X + 5 < LB) (hx : x ≠ lt → isF t x = true ∧ plN t x < p) :
    Calls Try.prog 52 #[.int .i64 x, .pointer (some ⟨LB, 0, none⟩), .pointer (some ⟨X + 2, 0, none⟩), .pointer (some ⟨X + 5, 0, none⟩), .pointer (some ⟨X, 0, none⟩)] W fun e w' => e = .returned (.bool (!(x == lt || cl.contains x || lvl t x == 0 || covB t (fun x => cl.contains x) (plN t x)))) ∧ CvS w0 W w' X a t c g gs ns cl M p := by
  have b0 := h.box.c0
  have b1 := h.box.c1
  have b2 := h.gf.c
  have b3 := h.cf.c
  have b4 := hlb.c
  have HH : Hid (Cv w0 W X a t c g gs ns cl M) := h
  have HI : Hid (InP t M) := hi
  have HRg : Hid (Rgt t (fun x => cl.contains x) M p) := hr
  by_cases he : x = lt
  · have HE : Hid ((!(x == lt || cl.contains x || lvl t x == 0 || covB t (fun x => cl.contains x) (plN t x))) = false) := by show _ = _; rw [he]; simp
    have hxb : (x != lt) = false := by rw [he]; simp
    rw [HE.out]
    clear h hi hr hIH hlb hx HE
    go_enter Try.func52, Try.ntmps52
    go_upto_region 1 with fail
    go_quiet (fail)
    go_wp2_with fail
    go_ret
    exact ⟨rfl, CvS.same HH.out HI.out HRg.out (below_drewN _ _)⟩
  obtain ⟨hxF, hxp⟩ := hx he
  have hxb : (x != lt) = true := by simpa using he
  have HGv : Hid (∀ W', Below W.heap.size W W' → Calls Try.prog 50 #[.int .i64 x, .pointer (some ⟨X + 1, 0, none⟩), .pointer (some ⟨X, 0, none⟩)] W' fun e w' => e = .returned (.bool (cl.contains x || lvl t x == 0)) ∧ Below W'.heap.size W' w') := fun W' hW => given_any w0 W' X a t c g gs ns cl M x (HH.out.below hW) hxF
  have HBs : Hid (∀ W', Below W.heap.size W W' → W'.cell? ⟨X, 0, none⟩ = some (.slice a t.length c) ∧ W'.cell? ⟨X, 1, none⟩ = some (.map (some g)) ∧ W'.cell? ⟨X + 2, 0, none⟩ = some (gvV X) ∧ W'.cell? ⟨X + 5, 0, none⟩ = some (cvV X) ∧ W'.cell? ⟨LB, 0, none⟩ = some (.int .i64 lt)) := fun W' hW => by
    have q := HH.out.below hW
    exact ⟨q.box.c0, q.box.c1, q.gf.c, q.cf.c, (hlb.below hW).c⟩
  cases hg : (cl.contains x || lvl t x == 0)
  case true =>
    have HE : Hid ((!(x == lt || cl.contains x || lvl t x == 0 || covB t (fun x => cl.contains x) (plN t x))) = false) := by
      show _ = _
      rw [Bool.or_assoc (x == lt), hg]; simp
    rw [HE.out]
    rw [hg] at HGv
    clear h hi hr hIH hlb hx HE hg he hxF hxp
    go_enter Try.func52, Try.ntmps52
    go_upto_region 1 with fail
    haveI hne := xt_ne W
    have y0 := Wx.cell b0
    have y1 := Wx.cell b1
    have y2 := Wx.cell b2
    have y3 := Wx.cell b3
    have y4 := Wx.cell b4
    have HQx : Hid (∀ x', Calls Try.prog 50 #[.int .i64 x, .pointer (some ⟨X + 1, 0, none⟩), .pointer (some ⟨X, 0, none⟩)] (Wx W x') fun e w'' => e = .returned (.bool true) ∧ ∃ y, w'' = Wx W y) := fun x' => (HGv.out (Wx W x') x'.be).mono fun e w' ⟨q1, q2⟩ => ⟨q1, ⟨w', Below.step x'.be q2⟩, rfl⟩
    clear b0 b1 b2 b3 b4 HGv HBs
    refine (wpIn_wide (n := 1)).1 ?_
    refine region_quietX (by kernel_rfl) (by kernel_rfl) (by kernel_rfl) ?_
    repeat (refine wpQuietIn_step (fun _ _ _ _ => trivial) (fun Kqz hKqz => ?_); go_simp; first | (refine hKqz _ ?_; clear hKqz Kqz) | (apply Exists.intro; refine ⟨fun _ => ?_, hKqz _ ?_⟩; (gi_at_call 50; with_reducible exact callsIn_wide.2 (HQx.out _)); clear hKqz Kqz))
    refine wpQuietIn_nil ?_
    intro _ hwq1
    obtain ⟨xq, hwq2⟩ := hwq1
    subst hwq2
    have HB9 : Hid (Below W.heap.size W (Wx W xq)) := xq.be
    clear y0 y1 y2 y3 y4 HQx
    generalize Wx W xq = W9 at *
    go_wp2_with fail
    go_ret
    exact ⟨rfl, CvS.same HH.out HI.out HRg.out HB9.out⟩
  case false =>
    obtain ⟨CB, hCB⟩ : ∃ CB, covB t (fun x => cl.contains x) (plN t x) = CB := ⟨_, rfl⟩
    have HE : Hid ((!(x == lt || cl.contains x || lvl t x == 0 || covB t (fun x => cl.contains x) (plN t x))) = !CB) := by
      show _ = _
      rw [Bool.or_assoc (x == lt), hg, hCB, show (x == lt) = false by simpa using he]; rfl
    rw [HE.out]
    rw [hg] at HGv
    have HPl : Hid (∀ W', Below W.heap.size W W' → Calls Try.prog 29 #[rV a t.length c g, .int .i64 x] W' fun e w' => e = .returned (.int .i64 (plN t x : Int)) ∧ Below W'.heap.size W' w') := fun W' hW => place_any a t t c g x W' (HH.out.below hW).rz
    have HCv : Hid (∀ W', Below W.heap.size W W' → Calls Try.prog 51 #[.int .i64 (plN t x : Int), .pointer (some ⟨X + 4, 0, none⟩), .pointer (some ⟨X, 0, none⟩), .pointer (some ⟨X + 2, 0, none⟩), .pointer (some ⟨X + 5, 0, none⟩)] W' fun e w' => e = .returned (.bool CB) ∧ CvS w0 W w' X a t c g gs ns cl M p) := fun W' hW => by
      have q := hIH (plN t x) hxp W' M (HH.out.below hW) HI.out (fun r hr' m hm => HRg.out r (by omega) m hm)
      rw [hCB] at q
      exact q.mono fun e w' ⟨h1, h2⟩ => ⟨h1, CvS.wide HRg.out hW h2 (by omega)⟩
    clear h hi hr hIH hx HE hg he hCB hxF
    generalize plN t x = px at *
    have HBs2 : Hid (∀ w', CvS w0 W w' X a t c g gs ns cl M p → w'.cell? ⟨X, 0, none⟩ = some (.slice a t.length c) ∧ w'.cell? ⟨X, 1, none⟩ = some (.map (some g)) ∧ w'.cell? ⟨X + 2, 0, none⟩ = some (gvV X) ∧ w'.cell? ⟨X + 5, 0, none⟩ = some (cvV X) ∧ w'.cell? ⟨LB, 0, none⟩ = some (.int .i64 lt)) := fun w' hS => by
      obtain ⟨M', q, _, _, _, q5⟩ := hS
      exact ⟨q.box.c0, q.box.c1, q.gf.c, q.cf.c, (hlb.kept q5 (by simp; omega)).c⟩
    clear hlb
    go_enter Try.func52, Try.ntmps52
    go_upto_region 1 with fail
    go_region_law (go_simp; first
      | (go_at_call 50; refine (HGv.out _ (Below.refl _ _).drew).mono ?_; rintro e w2 ⟨rfl, bE⟩; have K1 : Hid (Below W.heap.size W w2) := Below.step (Below.refl _ _).drew bE; obtain ⟨k0, k1, k2, k3, k4⟩ := HBs.out w2 K1.out; clear bE; dsimp only)
      | (go_at_call 29; refine (HPl.out _ K1.out).mono ?_; rintro e w3 ⟨rfl, bE⟩; have K2 : Hid (Below W.heap.size W w3) := Below.step K1.out bE; obtain ⟨l0, l1, l2, l3, l4⟩ := HBs.out w3 K2.out; clear bE; dsimp only)
      | (go_at_call 51; refine (HCv.out _ K2.out).mono ?_; rintro e w4 ⟨rfl, bE⟩; have K3 : Hid (CvS w0 W w4 X a t c g gs ns cl M p) := bE; clear bE; dsimp only))
    all_goals
      go_wp2_with fail
      go_ret
      exact ⟨rfl, K3.out⟩
end Go.Proofs.Ytgngdohhlhlcpaa
set_option linter.unusedSimpArgs false
set_option linter.unusedVariables false
namespace Go.Proofs.Ytgngdohhlhlcpaa
open Go Go.RowKit
theorem CvS.trans {w0 W W' W'' : World} {X : Nat} {a : Option Addr} {t : List Ent} {c g gs ns : Nat} {cl : List Int} {M M' : Int → Option Nat} {p : Nat} (hg : W.grownBy W' (some (X + 3))) (hM : ∀ r : Int, (p : Int) ≤ r → M' r = M r) (h : CvS w0 W' W'' X a t c g gs ns cl M' p) : CvS w0 W W'' X a t c g gs ns cl M p := by
  obtain ⟨M2, h1, h2, h3, h4, h5⟩ := h
  exact ⟨M2, h1, h2, h3, fun r hr => (h4 r hr).trans (hM r hr), World.grownBy.trans hg h5⟩
/-- what lacks says -/
def lkB (t : List Ent) (cl : List Int) (lt x : Int) : Bool := !(x == lt || cl.contains x || lvl t x == 0 || covB t (fun x => cl.contains x) (plN t x))
theorem any_more (q : Int → Bool) (zs : List Int) (k : Nat) (h : k < zs.length) : (zs.take (k + 1)).any q = ((zs.take k).any q || q (zs.getD k 0)) := by
  rw [take_succ_getD zs 0 k h, List.any_append]; simp
theorem any_yes {q : Int → Bool} {zs : List Int} {k : Nat} (h : k < zs.length) (hq : q (zs.getD k 0) = true) : zs.any q = true := List.any_eq_true.2 ⟨_, getD_mem' h, hq⟩
set_option maxRecDepth 100000 in
set_option maxHeartbeats 3200000 in
theorem indexF_any (w0 W : World) (X : Nat) (a : Option Addr) (t : List Ent) (c g gs ns : Nat) (cl : List Int) (M : Int → Option Nat) (p LB : Nat) (u : Value) (rs : List Int) (lt : Int) (h : Cv w0 W X a t c g gs ns cl M) (hi : InP t M) (hr : Rgt t (fun x => cl.contains x) M p) (hIH : ∀ q, q < p → CvC w0 X a t c g gs ns cl q)
    (hlb : Bo1 W LB 3 (.int .i64 lt)) (hLX : X + 5 < LB) (hu : Rd w0 u rs) (hx : ∀ x ∈ rs, x ≠ lt → isF t x = true ∧ plN t x < p) :
    Calls Try.prog 59 #[u, .func (.func 52) #[] #[.pointer (some ⟨LB, 0, none⟩), .pointer (some ⟨X + 2, 0, none⟩), .pointer (some ⟨X + 5, 0, none⟩), .pointer (some ⟨X, 0, none⟩)]] W fun e w' => ∃ r : Int, e = .returned (.int .i64 r) ∧ decide (0 ≤ r) = rs.any (lkB t cl lt) ∧ CvS w0 W w' X a t c g gs ns cl M p := by
  have hl := hu.len
  have HU : Hid (Rd w0 u rs) := hu
  obtain ⟨ua, uc, rfl, huc, hum, _⟩ := hu.form
  have HS : Hid (CvS w0 W W X a t c g gs ns cl M p) := CvS.same h hi hr (Below.refl _ _)
  have HIH : Hid (∀ q, q < p → CvC w0 X a t c g gs ns cl q) := hIH
  have HLB : Hid (Bo1 W LB 3 (.int .i64 lt)) := hlb
  have HX : Hid (∀ x ∈ rs, x ≠ lt → isF t x = true ∧ plN t x < p) := hx
  clear h hi hr hIH hlb hu hx
  go_enter Try.func59, Try.ntmps59
  go_wp2_with fail
  go_loopg [8] rs.length (fun g' i wr => ∃ k : Nat, k + g' = rs.length ∧ i = .int .i64 k ∧ (rs.take k).any (lkB t cl lt) = false ∧ Hid (CvS w0 W wr X a t c g gs ns cl M p))
  case atStart => exact ⟨0, by omega, rfl, rfl, HS.out⟩
  case round =>
    obtain ⟨k, hk, rfl, hall, HC⟩ := hrel
    have HK : Hid (k + gk = rs.length) := hk
    have HA : Hid ((rs.take k).any (lkB t cl lt) = false) := hall
    clear hall
    by_cases hlt : k < rs.length
    · obtain ⟨M1, m1, m2, m3, m4, m5⟩ := HC.out
      obtain ⟨ua', uc', e', _, _, hcell⟩ := (HU.out.below (by rw [m1.eX]; exact m1.bel)).form
      injection e' with q1 q2 q3
      subst q1 q3
      obtain ⟨b2, off2, rfl, hck⟩ := hcell k hlt
      have hmem := getD_mem' (l := rs) (k := k) (d := 0) hlt
      have HM := any_more (lkB t cl lt) rs k hlt
      have HLk : Hid (Calls Try.prog 52 #[.int .i64 (rs.getD k 0), .pointer (some ⟨LB, 0, none⟩), .pointer (some ⟨X + 2, 0, none⟩), .pointer (some ⟨X + 5, 0, none⟩), .pointer (some ⟨X, 0, none⟩)] wr fun e w' => e = .returned (.bool (lkB t cl lt (rs.getD k 0))) ∧ CvS w0 W w' X a t c g gs ns cl M p) := (lacks_any w0 wr X a t c g gs ns cl M1 p LB (rs.getD k 0) lt m1 m2 m3 HIH.out (HLB.out.kept m5 (by simp; omega)) hLX (HX.out _ hmem)).mono fun e w' ⟨h1, h2⟩ => ⟨h1, CvS.trans m5 m4 h2⟩
      have HN : Hid (lkB t cl lt (rs.getD k 0) = true → rs.any (lkB t cl lt) = true) := fun h => any_yes hlt h
      have HM2 : Hid (lkB t cl lt (rs.getD k 0) = false → (rs.take (k + 1)).any (lkB t cl lt) = false) := fun h => by rw [HM, HA.out, h]; rfl
      clear hk hcell hmem HM m1 m2 m3 m4 m5
      generalize rs.getD k 0 = y at *
      generalize lkB t cl lt y = yb at *
      cases yb
      · have HT : Hid ((rs.take (k + 1)).any (lkB t cl lt) = false) := HM2.out rfl
        clear HN HM2
        go_wp2_with (go_at_call 52; refine HLk.out.mono ?_; rintro e w2 ⟨rfl, h2⟩; have H2 : Hid (CvS w0 W w2 X a t c g gs ns cl M p) := h2; clear h2)
        go_roundg (gk - 1)
        case measure => have := HK.out; omega
        case rel => exact ⟨k + 1, by have := HK.out; omega, by go_num, HT.out, H2.out⟩
      · have HT : Hid (rs.any (lkB t cl lt) = true) := HN.out rfl
        clear HN HM2
        go_wp2_with (go_at_call 52; refine HLk.out.mono ?_; rintro e w2 ⟨rfl, h2⟩; have H2 : Hid (CvS w0 W w2 X a t c g gs ns cl M p) := h2; clear h2)
        go_ret
        exact ⟨(k : Int), rfl, by rw [HT.out]; simp, H2.out⟩
    · obtain rfl : k = rs.length := by omega
      have HE : Hid (rs.any (lkB t cl lt) = false) := by have := HA.out; rw [List.take_length] at this; exact this
      clear hk
      go_wp2
      go_ret
      exact ⟨-1, rfl, by rw [HE.out]; rfl, HC.out⟩
set_option maxHeartbeats 3200000 in
theorem containsF_any (w0 W : World) (X : Nat) (a : Option Addr) (t : List Ent) (c g gs ns : Nat) (cl : List Int) (M : Int → Option Nat) (p LB : Nat) (u : Value) (rs : List Int) (lt : Int) (h : Cv w0 W X a t c g gs ns cl M) (hi : InP t M) (hr : Rgt t (fun x => cl.contains x) M p) (hIH : ∀ q, q < p → CvC w0 X a t c g gs ns cl q)
    (hlb : Bo1 W LB 3 (.int .i64 lt)) (hLX : X + 5 < LB) (hu : Rd w0 u rs) (hx : ∀ x ∈ rs, x ≠ lt → isF t x = true ∧ plN t x < p) :
    Calls Try.prog 53 #[u, .func (.func 52) #[] #[.pointer (some ⟨LB, 0, none⟩), .pointer (some ⟨X + 2, 0, none⟩), .pointer (some ⟨X + 5, 0, none⟩), .pointer (some ⟨X, 0, none⟩)]] W fun e w' => e = .returned (.bool (rs.any (lkB t cl lt))) ∧ CvS w0 W w' X a t c g gs ns cl M p := by
  have HI := indexF_any w0 W X a t c g gs ns cl M p LB u rs lt h hi hr hIH hlb hLX hu hx
  have HI2 : Hid (Calls Try.prog 59 #[u, .func (.func 52) #[] #[.pointer (some ⟨LB, 0, none⟩), .pointer (some ⟨X + 2, 0, none⟩), .pointer (some ⟨X + 5, 0, none⟩), .pointer (some ⟨X, 0, none⟩)]] W fun e w' => ∃ r : Int, e = .returned (.int .i64 r) ∧ decide (0 ≤ r) = rs.any (lkB t cl lt) ∧ CvS w0 W w' X a t c g gs ns cl M p) := HI
  clear HI h hi hr hIH hlb hu hx
  go_enter Try.func53, Try.ntmps53
  go_wp2_with (go_at_call 59; refine HI2.out.mono ?_; rintro e w2 ⟨r, rfl, hd, h2⟩; have H2 : Hid (CvS w0 W w2 X a t c g gs ns cl M p) := h2; have HD : Hid (decide (0 ≤ r) = rs.any (lkB t cl lt)) := hd; clear h2 hd)
  go_ret
  exact ⟨ret_bool HD.out, H2.out⟩
end Go.Proofs.Ytgngdohhlhlcpaa
set_option linter.unusedSimpArgs false
set_option linter.unusedVariables false
namespace Go.Proofs.Ytgngdohhlhlcpaa
open Go Go.RowKit
theorem cov_any {t : List Ent} (h : Ws t) {cl : List Int} {p : Nat} (hp : p < t.length) : covB t (fun x => cl.contains x) p = ((t.getD p e0).2.2.length != 0 && !((t.getD p e0).2.2.any (lkB t cl (t.getD p e0).1))) := by
  rw [h.cov hp]
  congr 1
  unfold lkB
  rw [Bool.eq_iff_iff, List.all_eq_true, Bool.not_eq_true', List.any_eq_false]
  constructor
  · intro q x hx
    rw [q x hx]; simp
  · intro q x hx
    have := q x hx
    rw [Bool.not_eq_true, Bool.not_eq_false'] at this
    exact this
set_option maxRecDepth 100000 in
set_option maxHeartbeats 6400000 in
theorem covered_at (w0 : World) (X : Nat) (a : Option Addr) (t : List Ent) (c g gs ns : Nat) (cl : List Int) (p : Nat) (hp : p < t.length) (hIH : ∀ q, q < p → CvC w0 X a t c g gs ns cl q) : CvC w0 X a t c g gs ns cl p := by
  intro W M h hi hr
  have hbn := h.rz.bnd
  have hget := h.ms.get (x := (p : Int)) (by omega) (by omega)
  have b2 := h.mb.c
  have HH : Hid (Cv w0 W X a t c g gs ns cl M) := h
  have HI : Hid (InP t M) := hi
  have HR : Hid (Rgt t (fun x => cl.contains x) M (p + 1)) := hr
  have HWs : Hid (Ws t) := h.rz.ws
  cases hm : M (p : Int) with
  | some m =>
    have hmv := hr p (by omega) m hm
    rw [hm] at hget
    have hget' : (Instr.lookup 49 (.map (some (X + 3))) (.int .i64 (p : Int)) false).run Try.prog W = .ok (.int .i64 (m : Int)) W := hget
    clear hget h hi hr hIH hm
    cases hcv : covB t (fun x => cl.contains x) p
    · rw [hcv] at hmv
      obtain rfl : m = 1 := by simpa using hmv
      rw [show ((1 : Nat) : Int) = 1 from rfl] at hget'
      clear hmv hcv
      go_enter Try.func51, Try.ntmps51
      go_wp2_with fail
      go_ret
      exact ⟨rfl, CvS.same HH.out HI.out HR.out (Below.refl _ _)⟩
    · rw [hcv] at hmv
      obtain rfl : m = 2 := by simpa using hmv
      rw [show ((2 : Nat) : Int) = 2 from rfl] at hget'
      clear hmv hcv
      go_enter Try.func51, Try.ntmps51
      go_wp2_with fail
      go_ret
      exact ⟨rfl, CvS.same HH.out HI.out HR.out (Below.refl _ _)⟩
  | none =>
    rw [hm] at hget
    have hget' : (Instr.lookup 49 (.map (some (X + 3))) (.int .i64 (p : Int)) false).run Try.prog W = .ok (.int .i64 0) W := hget
    have b0 := h.box.c0
    obtain ⟨b, off, u, rfl, hbl, c0, c1, c2, hru⟩ := h.rz0.cells hp
    obtain ⟨ra, rc, rfl, hrc, hrm, _⟩ := hru.form
    have hlr := hru.len
    have hW0 : Below w0.heap.size w0 W := by rw [h.eX]; exact h.bel
    have d0 : W.cell? ⟨b, off + p * 3, none⟩ = some (.int .i64 (t.getD p e0).1) := (hW0.cell (p := ⟨b, off + p * 3, none⟩) hbl).trans c0
    have d2 : W.cell? ⟨b, off + p * 3 + 2, none⟩ = some (.slice ra (t.getD p e0).2.2.length rc) := (hW0.cell (p := ⟨b, off + p * 3 + 2, none⟩) hbl).trans c2
    have HRu : Hid (Rd w0 (.slice ra (t.getD p e0).2.2.length rc) (t.getD p e0).2.2) := hru
    have hCv := cov_any (cl := cl) h.rz.ws hp
    have HXs : Hid (∀ x ∈ (t.getD p e0).2.2, x ≠ (t.getD p e0).1 → isF t x = true ∧ plN t x < p) := fun x hx hne => h.rz.ws.rOth_at hp (List.mem_filter.2 ⟨hx, by simpa using hne⟩)
    have hX5 : X + 5 < W.heap.size := h.cf.lt
    have HIH : Hid (∀ q, q < p → CvC w0 X (some ⟨b, off, none⟩) t c g gs ns cl q) := hIH
    obtain ⟨rs, hrs⟩ : ∃ rs, (t.getD p e0).2.2 = rs := ⟨_, rfl⟩
    obtain ⟨lt, hlt⟩ : ∃ lt, (t.getD p e0).1 = lt := ⟨_, rfl⟩
    rw [hrs, hlt] at HXs hCv
    rw [hlt] at d0
    rw [hrs] at d2 HRu hlr hrc
    have hba := below_box W (.cells #[.int .i64 0] 3)
    have hbW : b < W.heap.size := Nat.lt_of_lt_of_le hbl hW0.size
    have a0 : (W.alloc (.cells #[.int .i64 0] 3)).cell? ⟨b, off + p * 3, none⟩ = some (.int .i64 lt) := (hba.cell (p := ⟨b, off + p * 3, none⟩) hbW).trans d0
    have a2 : (W.alloc (.cells #[.int .i64 0] 3)).cell? ⟨b, off + p * 3 + 2, none⟩ = some (.slice ra rs.length rc) := (hba.cell (p := ⟨b, off + p * 3 + 2, none⟩) hbW).trans d2
    have a1 : (W.alloc (.cells #[.int .i64 0] 3)).cell? ⟨X, 0, none⟩ = some (.slice (some ⟨b, off, none⟩) t.length c) := (hba.cell (p := ⟨X, 0, none⟩) h.box.lt).trans b0
    have hbb := below_box W (.cells #[.int .i64 lt] 3)
    have e0' : (W.alloc (.cells #[.int .i64 lt] 3)).cell? ⟨b, off + p * 3, none⟩ = some (.int .i64 lt) := (hbb.cell (p := ⟨b, off + p * 3, none⟩) hbW).trans d0
    have e2' : (W.alloc (.cells #[.int .i64 lt] 3)).cell? ⟨b, off + p * 3 + 2, none⟩ = some (.slice ra rs.length rc) := (hbb.cell (p := ⟨b, off + p * 3 + 2, none⟩) hbW).trans d2
    have e1' : (W.alloc (.cells #[.int .i64 lt] 3)).cell? ⟨X, 0, none⟩ = some (.slice (some ⟨b, off, none⟩) t.length c) := (hbb.cell (p := ⟨X, 0, none⟩) h.box.lt).trans b0
    -- the world behind region 3, and the first mark
    have hb3 : Below W.heap.size W (W.drew.alloc (.cells #[.int .i64 lt] 3)) := Below.step (Below.refl _ _).drew (below_box _ _)
    obtain ⟨w3, hw3⟩ : ∃ w3, W.drew.alloc (.cells #[.int .i64 lt] 3) = w3 := ⟨_, rfl⟩
    have hlb : Bo1 w3 W.heap.size 3 (.int .i64 lt) := by rw [← hw3]; exact Bo1.new W.drew 3 (.int .i64 lt)
    rw [hw3] at hb3
    obtain ⟨w4, hrun4, hcv4, hg4⟩ := (h.below hb3).mark p 2 hp (by omega) hi
    rw [show ((2 : Nat) : Int) = 2 from rfl] at hrun4
    have b3 : w3.cell? ⟨X + 4, 0, none⟩ = some (.map (some (X + 3))) := (h.below hb3).mb.c
    have HG4 : Hid (W.grownBy w4 (some (X + 3))) := World.grownBy.trans ((grown_below hb3).but _) hg4
    have HC4 : Hid (Cv w0 w4 X (some ⟨b, off, none⟩) t c g gs ns cl (upI M (p : Int) 2)) := hcv4
    have HI4 : Hid (InP t (upI M (p : Int) 2)) := fun q hq => by
      unfold upI at hq
      split at hq
      · rename_i e; subst e; omega
      · exact HI.out q hq
    have HR4 : Hid (Rgt t (fun x => cl.contains x) (upI M (p : Int) 2) p) := fun r hrp m hm2 => by
      unfold upI at hm2
      rw [if_neg (by omega)] at hm2
      exact HR.out r (by omega) m hm2
    have HCF : Hid (Calls Try.prog 53 #[.slice ra rs.length rc, .func (.func 52) #[] #[.pointer (some ⟨W.heap.size, 0, none⟩), .pointer (some ⟨X + 2, 0, none⟩), .pointer (some ⟨X + 5, 0, none⟩), .pointer (some ⟨X, 0, none⟩)]] w4 fun e w' => e = .returned (.bool (rs.any (lkB t cl lt))) ∧ CvS w0 w4 w' X (some ⟨b, off, none⟩) t c g gs ns cl (upI M (p : Int) 2) p) :=
      containsF_any w0 w4 X _ t c g gs ns cl (upI M (p : Int) 2) p W.heap.size _ rs lt HC4.out HI4.out HR4.out HIH.out (hlb.kept hg4 (by simp; omega)) hX5 HRu.out HXs.out
    have b4 : w4.cell? ⟨X + 4, 0, none⟩ = some (.map (some (X + 3))) := hcv4.mb.c
    -- what a mark of p leaves behind it
    have HFin : Hid (∀ w5 M5 m w6, CvS w0 w4 w5 X (some ⟨b, off, none⟩) t c g gs ns cl (upI M (p : Int) 2) p → Cv w0 w6 X (some ⟨b, off, none⟩) t c g gs ns cl M5 → InP t M5 → Rgt t (fun x => cl.contains x) M5 p → (∀ r : Int, (p : Int) < r → M5 r = M r) → M5 (p : Int) = some m → m = (if covB t (fun x => cl.contains x) p then 2 else 1) → W.grownBy w6 (some (X + 3)) → CvS w0 W w6 X (some ⟨b, off, none⟩) t c g gs ns cl M (p + 1)) := fun w5 M5 m w6 _ k1 k2 k3 k4 k5 k6 k7 =>
      ⟨M5, k1, k2, fun r hrp m' hm' => by
        by_cases e : r = p
        · subst e
          rw [k5] at hm'
          rw [← Option.some.inj hm']; exact k6
        · exact k3 r (by omega) m' hm', fun r hrp => k4 r (by omega), k7⟩
    have HMk : Hid (∀ w5 M5, Cv w0 w5 X (some ⟨b, off, none⟩) t c g gs ns cl M5 → InP t M5 → ∃ w6, (Instr.mapUpdate 49 (.map (some (X + 3))) (.int .i64 (p : Int)) (.int .i64 1)).run Try.prog w5 = .ok () w6 ∧ (Instr.lookup 49 (.map (some (X + 3))) (.int .i64 (p : Int)) false).run Try.prog w6 = .ok (.int .i64 1) w6 ∧ w6.cell? ⟨X + 4, 0, none⟩ = some (.map (some (X + 3))) ∧ Cv w0 w6 X (some ⟨b, off, none⟩) t c g gs ns cl (upI M5 (p : Int) 1) ∧ w5.grownBy w6 (some (X + 3)) ∧ InP t (upI M5 (p : Int) 1)) := fun w5 M5 k1 k2 => by
      obtain ⟨w6, r1, r2, r3⟩ := k1.mark p 1 hp (by omega) k2
      have r4 := r2.ms.get (x := (p : Int)) (by omega) (by omega)
      have e : upI M5 (p : Int) 1 (p : Int) = some 1 := by unfold upI; rw [if_pos rfl]
      rw [e] at r4
      refine ⟨w6, r1, r4, r2.mb.c, r2, r3, fun q hq => ?_⟩
      unfold upI at hq
      split at hq
      · rename_i e'; subst e'; omega
      · exact k2 q hq
    have HFi1 : Hid (∀ w5 w6 M5, Rgt t (fun x => cl.contains x) M5 p → (∀ r : Int, (p : Int) ≤ r → M5 r = upI M (p : Int) 2 r) → W.grownBy w5 (some (X + 3)) → Cv w0 w6 X (some ⟨b, off, none⟩) t c g gs ns cl (upI M5 (p : Int) 1) → w5.grownBy w6 (some (X + 3)) → InP t (upI M5 (p : Int) 1) → covB t (fun x => cl.contains x) p = false → CvS w0 W w6 X (some ⟨b, off, none⟩) t c g gs ns cl M (p + 1)) := fun w5 w6 M5 k3 k4 k5 k6 k7 k8 k9 =>
      ⟨upI M5 (p : Int) 1, k6, k8, fun r hrp m' hm' => by
        unfold upI at hm'
        by_cases e : r = p
        · subst e
          rw [if_pos rfl] at hm'
          rw [← Option.some.inj hm', k9]; rfl
        · rw [if_neg (by omega)] at hm'
          exact k3 r (by omega) m' hm', fun r hrp => by
        unfold upI
        rw [if_neg (by omega), k4 r (by omega)]
        unfold upI
        rw [if_neg (by omega)], World.grownBy.trans k5 k7⟩
    clear hba hbb h hi hr hIH hcv4 hg4 hlb c0 c1 c2 hru hW0 HFin hm hget hrs hlt hb3 hbl
    obtain ⟨CB, hCB⟩ : ∃ CB, covB t (fun x => cl.contains x) p = CB := ⟨_, rfl⟩
    have HCB : Hid (covB t (fun x => cl.contains x) p = CB) := hCB
    have HCe : Hid (CB = (rs.length != 0 && !(rs.any (lkB t cl lt)))) := by rw [← hCB]; exact hCv
    rw [hCB]
    clear hCB hCv
    have HW3 : Hid (W.drew.alloc (.cells #[.int .i64 lt] 3) = w3) := hw3
    clear hw3
    by_cases hz : rs.length = 0
    · obtain ⟨w6, r1, r2, r3, r4, r5, r6⟩ := HMk.out w4 _ HC4.out HI4.out
      have hcb : CB = false := by rw [HCe.out, hz]; rfl
      have HS6 : Hid (CvS w0 W w6 X (some ⟨b, off, none⟩) t c g gs ns cl M (p + 1)) := HFi1.out w4 w6 _ HR4.out (fun _ _ => rfl) HG4.out r4 r5 r6 (by rw [HCB.out, hcb])
      rw [hz] at d2 a2 e2'
      subst hcb
      clear HMk HFi1 HCF HCe HCB r4 r5 r6 HC4 HI4 HR4
      go_enter Try.func51, Try.ntmps51
      go_upto_region 3 with fail
      go_cut [7, 8] from 18 to 29 (fun t7 t8 wx => t7 = .pointer (some ⟨W.heap.size, 0, none⟩) ∧ t8 = .slice ra 0 rc ∧ wx = W.drew.alloc (.cells #[.int .i64 lt] 3))
      case first =>
        go_region_law (fail)
        all_goals
          go_wp2_with fail
          go_meet
          exact ⟨rfl, rfl, rfl⟩
      case rest =>
        obtain ⟨rfl, rfl, rfl⟩ := hcut
        rw [HW3.out]
        clear a0 a1 a2 e0' e1' e2' d0 d2 hget' b0
        go_wp2_with fail
        go_ret
        exact ⟨rfl, HS6.out⟩
    · have hzb : ((rs.length : Int) == 0) = false := beq_eq_false_iff_ne.2 (by omega)
      cases hany : rs.any (lkB t cl lt)
      · have hcb : CB = true := by rw [HCe.out, hany, show (rs.length != 0) = true by simpa using hz]; rfl
        have HS6 : Hid (∀ w5, CvS w0 w4 w5 X (some ⟨b, off, none⟩) t c g gs ns cl (upI M (p : Int) 2) p → (Instr.lookup 49 (.map (some (X + 3))) (.int .i64 (p : Int)) false).run Try.prog w5 = .ok (.int .i64 2) w5 ∧ w5.cell? ⟨X + 4, 0, none⟩ = some (.map (some (X + 3))) ∧ CvS w0 W w5 X (some ⟨b, off, none⟩) t c g gs ns cl M (p + 1)) := fun w5 ⟨M5, k1, k2, k3, k4, k5⟩ => by
          have k6 := k1.ms.get (x := (p : Int)) (by omega) (by omega)
          have e : M5 (p : Int) = some 2 := by rw [k4 _ (Int.le_refl _)]; unfold upI; rw [if_pos rfl]
          rw [e] at k6
          refine ⟨k6, k1.mb.c, M5, k1, k2, fun r hrp m' hm' => ?_, fun r hrp => ?_, World.grownBy.trans HG4.out k5⟩
          · by_cases e2 : r = p
            · subst e2
              rw [e] at hm'
              rw [← Option.some.inj hm', HCB.out, hcb]; rfl
            · exact k3 r (by omega) m' hm'
          · rw [k4 r (by omega)]
            unfold upI
            rw [if_neg (by omega)]
        rw [hany] at HCF
        clear HMk HFi1 HCe HC4 HI4 HR4 hany
        go_enter Try.func51, Try.ntmps51
        go_upto_region 3 with fail
        go_cut [7, 8] from 18 to 29 (fun t7 t8 wx => t7 = .pointer (some ⟨W.heap.size, 0, none⟩) ∧ t8 = .slice ra rs.length rc ∧ wx = W.drew.alloc (.cells #[.int .i64 lt] 3))
        case first =>
          go_region_law (fail)
          all_goals
            go_wp2_with fail
            go_meet
            exact ⟨rfl, rfl, rfl⟩
        case rest =>
          obtain ⟨rfl, rfl, rfl⟩ := hcut
          rw [HW3.out]
          clear a0 a1 a2 e0' e1' e2' d0 d2 hget' b0
          go_wp2_with (go_at_call 53; refine HCF.out.mono ?_; rintro e w5 ⟨rfl, k5⟩; obtain ⟨g5, c5, s5⟩ := HS6.out w5 k5; have H5 : Hid (CvS w0 W w5 X (some ⟨b, off, none⟩) t c g gs ns cl M (p + 1)) := s5; clear s5 k5)
          go_ret
          exact ⟨by rw [hcb]; rfl, H5.out⟩
      · have hcb : CB = false := by rw [HCe.out, hany]; simp
        have HS6 : Hid (∀ w5, CvS w0 w4 w5 X (some ⟨b, off, none⟩) t c g gs ns cl (upI M (p : Int) 2) p → w5.cell? ⟨X + 4, 0, none⟩ = some (.map (some (X + 3))) ∧ ∃ w6, (Instr.mapUpdate 49 (.map (some (X + 3))) (.int .i64 (p : Int)) (.int .i64 1)).run Try.prog w5 = .ok () w6 ∧ (Instr.lookup 49 (.map (some (X + 3))) (.int .i64 (p : Int)) false).run Try.prog w6 = .ok (.int .i64 1) w6 ∧ w6.cell? ⟨X + 4, 0, none⟩ = some (.map (some (X + 3))) ∧ CvS w0 W w6 X (some ⟨b, off, none⟩) t c g gs ns cl M (p + 1)) := fun w5 ⟨M5, k1, k2, k3, k4, k5⟩ => by
          obtain ⟨w6, r1, r2, r3, r4, r5, r6⟩ := HMk.out w5 M5 k1 k2
          exact ⟨k1.mb.c, w6, r1, r2, r3, HFi1.out w5 w6 M5 k3 k4 (World.grownBy.trans HG4.out k5) r4 r5 r6 (by rw [HCB.out, hcb])⟩
        rw [hany] at HCF
        clear HMk HFi1 HCe HC4 HI4 HR4 hany
        go_enter Try.func51, Try.ntmps51
        go_upto_region 3 with fail
        go_cut [7, 8] from 18 to 29 (fun t7 t8 wx => t7 = .pointer (some ⟨W.heap.size, 0, none⟩) ∧ t8 = .slice ra rs.length rc ∧ wx = W.drew.alloc (.cells #[.int .i64 lt] 3))
        case first =>
          go_region_law (fail)
          all_goals
            go_wp2_with fail
            go_meet
            exact ⟨rfl, rfl, rfl⟩
        case rest =>
          obtain ⟨rfl, rfl, rfl⟩ := hcut
          rw [HW3.out]
          clear a0 a1 a2 e0' e1' e2' d0 d2 hget' b0
          go_wp2_with (go_at_call 53; refine HCF.out.mono ?_; rintro e w5 ⟨rfl, k5⟩; obtain ⟨c5, w6, g6, g7, c6, s6⟩ := HS6.out w5 k5; have H6 : Hid (CvS w0 W w6 X (some ⟨b, off, none⟩) t c g gs ns cl M (p + 1)) := s6; clear s6 k5)
          go_ret
          exact ⟨by rw [hcb]; rfl, H6.out⟩
end Go.Proofs.Ytgngdohhlhlcpaa
set_option linter.unusedSimpArgs false
set_option linter.unusedVariables false
namespace Go.Proofs.Ytgngdohhlhlcpaa
open Go Go.RowKit
theorem run_store_func15 {P : Program} {w : World} {a : Addr} {m : Mode} (fn : Fn) (x y : Array Value) : (store a (.func fn x y) m).run P w = stored P w a (.func fn x y) m := run_store P w a _ m rfl
attribute [local go_sem] run_store_func15
theorem covered_all (w0 : World) (X : Nat) (a : Option Addr) (t : List Ent) (c g gs ns : Nat) (cl : List Int) : ∀ p, p < t.length → CvC w0 X a t c g gs ns cl p := by
  intro p
  induction p using Nat.strongRecOn with
  | _ p ih => exact fun hp => covered_at w0 X a t c g gs ns cl p hp fun q hq => ih q hq (by omega)
/-- the coverer, its marks right -/
def CvA (w0 W : World) (X : Nat) (a : Option Addr) (t : List Ent) (c g gs ns : Nat) (cl : List Int) : Prop := ∃ M, Cv w0 W X a t c g gs ns cl M ∧ InP t M ∧ Rgt t (fun x => cl.contains x) M t.length
theorem CvA.below {w0 W W' : World} {X : Nat} {a : Option Addr} {t : List Ent} {c g gs ns : Nat} {cl : List Int} (h : CvA w0 W X a t c g gs ns cl) (hb : Below W.heap.size W W') : CvA w0 W' X a t c g gs ns cl := by
  obtain ⟨M, h1, h2, h3⟩ := h
  exact ⟨M, h1.below hb, h2, h3⟩
theorem covered_any (w0 W : World) (X : Nat) (a : Option Addr) (t : List Ent) (c g gs ns : Nat) (cl : List Int) (p : Nat) (h : CvA w0 W X a t c g gs ns cl) (hp : p < t.length) :
    Calls Try.prog 51 #[.int .i64 (p : Int), .pointer (some ⟨X + 4, 0, none⟩), .pointer (some ⟨X, 0, none⟩), .pointer (some ⟨X + 2, 0, none⟩), .pointer (some ⟨X + 5, 0, none⟩)] W fun e w' => e = .returned (.bool (covB t (fun x => cl.contains x) p)) ∧ CvA w0 w' X a t c g gs ns cl ∧ W.grownBy w' (some (X + 3)) := by
  obtain ⟨M, h1, h2, h3⟩ := h
  refine (covered_all w0 X a t c g gs ns cl p hp W M h1 h2 (fun r hr m hm => h3 r (by omega) m hm)).mono fun e w' ⟨k1, M', k2, k3, k4, k5, k6⟩ => ⟨k1, ⟨M', k2, k3, fun r hr m hm => ?_⟩, k6⟩
  by_cases e : r < p + 1
  · exact k4 r e m hm
  · rw [k5 _ (by omega)] at hm
    exact h3 r hr m hm
theorem Cv.start {w : World} {a : Option Addr} {t : List Ent} {c g gs ns : Nat} {cl : List Int} (h : Rz w a t c g t) (hs : Mi w gs ns (fsI cl)) :
    ∃ w1, ((((((w.alloc (.cells #[.slice a t.length c, .map (some g)] 51)).alloc (.cells #[.map (some gs)] 49)).alloc (.cells #[gvV w.heap.size] 61)).alloc (.map #[] 0)).alloc (.cells #[.map (some (w.heap.size + 3))] 49)).alloc (.cells #[cvV w.heap.size] 61)) = w1 ∧ CvA w w1 w.heap.size a t c g gs ns cl := by
  refine ⟨_, rfl, fun _ => none, ?_, fun q hq => (by cases hq), fun r _ m hm => (by cases hm)⟩
  have s1 : (w.alloc (.cells #[.slice a t.length c, .map (some g)] 51)).heap.size = w.heap.size + 1 := by simp
  generalize hw1 : w.alloc (.cells #[.slice a t.length c, .map (some g)] 51) = w1 at *
  have o1 : Bx2 w1 w.heap.size 51 (.slice a t.length c) (.map (some g)) := by rw [← hw1]; exact Bx2.new _ _ _ _
  have k1 : Below w.heap.size w w1 := by rw [← hw1]; exact below_box _ _
  have o2 := Bo1.new w1 49 (.map (some gs))
  rw [s1] at o2
  have s2 : (w1.alloc (.cells #[.map (some gs)] 49)).heap.size = w.heap.size + 2 := by simp [s1]
  have k2 := below_box w1 (.cells #[.map (some gs)] 49)
  generalize w1.alloc (.cells #[.map (some gs)] 49) = w2 at *
  have o3 := Bo1.new w2 61 (gvV w.heap.size)
  rw [s2] at o3
  have s3 : (w2.alloc (.cells #[gvV w.heap.size] 61)).heap.size = w.heap.size + 3 := by simp [s2]
  have k3 := below_box w2 (.cells #[gvV w.heap.size] 61)
  generalize w2.alloc (.cells #[gvV w.heap.size] 61) = w3 at *
  have o4 := Mi.made w3
  rw [s3] at o4
  have s4 : (w3.alloc (.map #[] 0)).heap.size = w.heap.size + 4 := by simp [s3]
  have k4 := below_box w3 (.map #[] 0)
  generalize w3.alloc (.map #[] 0) = w4 at *
  have o5 := Bo1.new w4 49 (.map (some (w.heap.size + 3)))
  rw [s4] at o5
  have s5 : (w4.alloc (.cells #[.map (some (w.heap.size + 3))] 49)).heap.size = w.heap.size + 5 := by simp [s4]
  have k5 := below_box w4 (.cells #[.map (some (w.heap.size + 3))] 49)
  generalize w4.alloc (.cells #[.map (some (w.heap.size + 3))] 49) = w5 at *
  have o6 := Bo1.new w5 61 (cvV w.heap.size)
  rw [s5] at o6
  have k6 := below_box w5 (.cells #[cvV w.heap.size] 61)
  have e56 := Below.step k5 k6
  have e46 := Below.step k4 e56
  have e36 := Below.step k3 e46
  have e26 := Below.step k2 e36
  have o4' : Mi (w5.alloc (.cells #[cvV w.heap.size] 61)) (w.heap.size + 3) t.length (fun _ => none) := by
    obtain ⟨D, d1, d2⟩ := o4.below e56
    exact ⟨D, d1.mono (by omega), d2⟩
  exact ⟨h, hs, rfl, Below.step k1 e26, o1.below e26, o2.below e36, o3.below e46, o5.below k6, o6, o4'⟩
set_option maxRecDepth 100000 in
set_option maxHeartbeats 3200000 in
theorem coverer_any (w : World) (a : Option Addr) (t : List Ent) (c g gs ns : Nat) (cl : List Int) (h : Rz w a t c g t) (hs : Mi w gs ns (fsI cl)) :
    Calls Try.prog 28 #[rV a t.length c g, .map (some gs)] w fun e w' => e = .returned (cvV w.heap.size) ∧ CvA w w' w.heap.size a t c g gs ns cl := by
  have hbn := h.bnd
  obtain ⟨w1, hw1, hS⟩ := Cv.start (cl := cl) h hs
  obtain ⟨X, hX⟩ : ∃ X, w.heap.size = X := ⟨_, rfl⟩
  rw [hX] at hw1 hS ⊢
  have HS : Hid (CvA w w1 X a t c g gs ns cl) := hS
  have HW1 : Hid (((((((w.alloc (.cells #[.slice a t.length c, .map (some g)] 51)).alloc (.cells #[.map (some gs)] 49)).alloc (.cells #[gvV X] 61)).alloc (.map #[] 0)).alloc (.cells #[.map (some (X + 3))] 49)).alloc (.cells #[cvV X] 61)) = w1) := hw1
  have hmake : ∀ W : World, (Instr.makeMap 49 none).run Try.prog W = .ok (.map (some W.heap.size)) (W.alloc (.map #[] 0)) := fun W => rfl
  clear h hs hS hw1
  go_enter Try.func28, Try.ntmps28
  go_upto_region 5 with fail
  simp only [Nat.add_assoc, Nat.reduceAdd]
  rw [HW1.out]
  clear HW1 hmake
  have b0 : w1.cell? ⟨X, 0, none⟩ = some (.slice a t.length c) := by obtain ⟨M, h1, _⟩ := HS.out; exact h1.box.c0
  have b5 : w1.cell? ⟨X + 5, 0, none⟩ = some (cvV X) := by obtain ⟨M, h1, _⟩ := HS.out; exact h1.cf.c
  by_cases hN : (65536 : Int) < (t.length : Int)
  · go_wp2_with fail
    go_loopg [19] t.length (fun g' i wr => ∃ k : Nat, k + g' = t.length ∧ i = .int .i64 k ∧ Hid (CvA w wr X a t c g gs ns cl))
    case atStart => exact ⟨0, by omega, rfl, HS.out⟩
    case round =>
      obtain ⟨k, hk, rfl, HC⟩ := hrel
      have HK : Hid (k + gk = t.length) := hk
      have c5 : wr.cell? ⟨X + 5, 0, none⟩ = some (cvV X) := by obtain ⟨M, h1, _⟩ := HC.out; exact h1.cf.c
      by_cases hlt : k < t.length
      · have HCv : Hid (Calls Try.prog 51 #[.int .i64 (k : Int), .pointer (some ⟨X + 4, 0, none⟩), .pointer (some ⟨X, 0, none⟩), .pointer (some ⟨X + 2, 0, none⟩), .pointer (some ⟨X + 5, 0, none⟩)] wr fun e w' => ∃ q, e = .returned (.bool q) ∧ CvA w w' X a t c g gs ns cl) := (covered_any w wr X a t c g gs ns cl k HC.out hlt).mono fun e w' ⟨h1, h2, _⟩ => ⟨_, h1, h2⟩
        clear hk
        go_wp2_with (go_at_call 51; refine HCv.out.mono ?_; rintro e w5 ⟨q, rfl, h5⟩; have H5 : Hid (CvA w w5 X a t c g gs ns cl) := h5; clear h5)
        go_roundg (gk - 1)
        case measure => have := HK.out; omega
        case rel => exact ⟨k + 1, by have := HK.out; omega, by go_num, H5.out⟩
      · clear hk
        go_wp2_with fail
        go_ret
        exact ⟨rfl, HC.out⟩
  · go_wp2_with fail
    go_ret
    exact ⟨rfl, HS.out⟩
end Go.Proofs.Ytgngdohhlhlcpaa
set_option linter.unusedSimpArgs false
set_option linter.unusedVariables false
namespace Go.Proofs.Ytgngdohhlhlcpaa
open Go Go.RowKit
/-- does the literal of place k stay? -/
def stay (t : List Ent) (cl : List Int) (k : Nat) : Bool := k == 0 || (decide (0 < lvl t (cl.getD k 0)) && !covB t (fun x => cl.contains x) (plN t (cl.getD k 0))) && fsI cl (cl.getD k 0) == some k
/-- what Shrink leaves of the first k -/
def shrK (t : List Ent) (cl : List Int) : Nat → List Int
  | 0 => []
  | k + 1 => if stay t cl k then shrK t cl k ++ [cl.getD k 0] else shrK t cl k
theorem shrK_len (t : List Ent) (cl : List Int) : ∀ k, (shrK t cl k).length ≤ k
  | 0 => Nat.le_refl _
  | k + 1 => by
    have := shrK_len t cl k
    unfold shrK
    split
    · simp; omega
    · omega
def ShS (w' : World) (B : Nat) (t : List Ent) (cl : List Int) (e : Ending) : Prop :=
  ∃ u, e = .returned (.tuple #[u, .int .i64 (askI t cl)]) ∧ Own B w' u (if askI t cl = 0 then shrK t cl cl.length else [])
theorem CvA.kept {w0 W W' : World} {X : Nat} {a : Option Addr} {t : List Ent} {c g gs ns : Nat} {cl : List Int} {row : Option Nat} (h : CvA w0 W X a t c g gs ns cl) (hg : W.grownBy W' row) (hr : ∀ k, row = some k → X + 5 < k) : CvA w0 W' X a t c g gs ns cl := by
  obtain ⟨M, h1, h2, h3⟩ := h
  have ne : ∀ k, k ≤ X + 5 → some k ≠ row := fun k hk e => by have := hr k e.symm; omega
  refine ⟨M, ⟨h1.rz0, h1.st0, h1.eX, h1.bel.grown hg (Nat.le_of_lt h1.box.lt) (fun k hk => by have := hr k hk; omega), h1.box.kept hg (ne _ (by omega)), h1.sb.kept hg (ne _ (by omega)), h1.gf.kept hg (ne _ (by omega)), h1.mb.kept hg (ne _ (by omega)), h1.cf.kept hg (ne _ (by omega)), h1.ms.kept (hg.block _ h1.ms.lt (ne _ (by omega)))⟩, h2, h3⟩
/-- the state of Shrink's loop -/
structure ShL (w2 wr : World) (X : Nat) (a : Option Addr) (t : List Ent) (c g gs ns : Nat) (cl : List Int) (u : Value) (O : List Int) : Prop where
  cv : CvA w2 wr X a t c g gs ns cl
  own : Own (X + 6) wr u O
theorem ShL.below {w2 wr w' : World} {X : Nat} {a : Option Addr} {t : List Ent} {c g gs ns : Nat} {cl : List Int} {u : Value} {O : List Int} (h : ShL w2 wr X a t c g gs ns cl u O) (hb : Below wr.heap.size wr w') : ShL w2 w' X a t c g gs ns cl u O := ⟨h.cv.below hb, h.own.below hb⟩
theorem CvA.facts {w2 W : World} {X : Nat} {a : Option Addr} {t : List Ent} {c g gs ns : Nat} {cl : List Int} (h : CvA w2 W X a t c g gs ns cl) : Below w2.heap.size w2 W ∧ Rz W a t c g t ∧ Mi W gs ns (fsI cl) ∧ X + 5 < W.heap.size := by
  obtain ⟨M, h1, _, _⟩ := h
  exact ⟨by rw [h1.eX]; exact h1.bel, h1.rz, h1.st, h1.cf.lt⟩
set_option maxRecDepth 100000 in
set_option maxHeartbeats 6400000 in
theorem shrink_any (v vc : Value) (t : List Ent) (cl : List Int) (w : World) (hr : RdE w v t) (hz : Rd w vc cl) :
    Calls Try.prog 7 #[v, vc] w fun e w' => ShS w' w.heap.size t cl e ∧ Below w.heap.size w w' := by
  have HRd : Hid (Calls Try.prog 23 #[v, vc] w fun e w' => ∃ xa xn xc ym, e = .returned (.tuple #[.agg #[.slice xa xn xc, .map ym], .int .i64 (askI t cl)]) ∧ Below w.heap.size w w' ∧ (askI t cl = 0 → RuS w' v t cl xa xn xc ym)) := readUnder_any v vc t cl w hr hz
  have hlz := hz.len
  have HZ : Hid (Rd w vc cl) := hz
  unfold ShS
  clear hr hz
  by_cases h0 : askI t cl = 0
  case neg =>
    rw [if_neg h0]
    have hb0 : (askI t cl == 0) = false := by simpa using h0
    generalize askI t cl = AI at *
    have HR2 : Hid (Calls Try.prog 23 #[v, vc] w fun e w' => ∃ xa xn xc ym, e = .returned (.tuple #[.agg #[.slice xa xn xc, .map ym], .int .i64 AI]) ∧ Below w.heap.size w w') := HRd.out.mono fun e w' ⟨x1, x2, x3, x4, h1, h2, _⟩ => ⟨x1, x2, x3, x4, h1, h2⟩
    clear HRd
    go_enter Try.func7, Try.ntmps7
    go_wp2_with (go_at_call 23; refine HR2.out.mono ?_; rintro e w1 ⟨xa, xn, xc, ym, rfl, bE⟩; have HB : Hid (Below w.heap.size w w1) := bE; clear bE)
    go_ret2
    exact ⟨⟨.slice none 0 0, rfl, World.ownsRow_nil _ _ _ _⟩, Below.step HB.out (below_box _ _)⟩
  rw [h0] at HRd ⊢
  rw [if_pos rfl]
  go_enter Try.func7, Try.ntmps7
  go_upto_region 4 with (go_at_call 23; refine HRd.out.mono ?_; rintro e w1 ⟨xa, xn, xc, ym, rfl, bE, hrz⟩; obtain ⟨g, hv, rfl, rfl, hrz, hfa, hfm⟩ := hrz rfl; have HB : Hid (Below w.heap.size w w1 ∧ Rz w1 xa t xc g t ∧ falB t cl = true ∧ cl.all fmd = true) := ⟨bE, hrz, hfa, hfm⟩; subst hv; clear bE hrz hfa hfm)
  have HWb : Hid (∀ W, Below (w1.alloc (.cells #[.slice xa t.length xc, .map (some g)] 51)).heap.size (w1.alloc (.cells #[.slice xa t.length xc, .map (some g)] 51)) W → Below w.heap.size w W ∧ Rz W xa t xc g t ∧ W.cell? ⟨w1.heap.size, 0, none⟩ = some (.slice xa t.length xc) ∧ W.cell? ⟨w1.heap.size, 1, none⟩ = some (.map (some g)) ∧ Rd W vc cl) := fun W hW => by
    have h1 : Below w1.heap.size w1 W := Below.step (below_box _ _) hW
    have h2 : Below w.heap.size w W := Below.step HB.out.1 h1
    exact ⟨h2, HB.out.2.1.below h1, box_at hW rfl, box_at hW rfl, HZ.out.below h2⟩
  have HWs : Hid (Ws t) := HB.out.2.1.ws
  have HFl : Hid (∀ x ∈ cl, isF t x = true) := List.all_eq_true.1 HB.out.2.2.1
  have HFm : Hid (cl.all fmd = true) := HB.out.2.2.2
  clear HB HRd
  generalize w1.alloc (.cells #[.slice xa t.length xc, .map (some g)] 51) = wb at *
  obtain ⟨Y, hY⟩ : ∃ Y, w1.heap.size = Y := ⟨_, rfl⟩
  rw [hY] at HWb ⊢
  clear hY
  have HFs : Hid (Calls Try.prog 27 #[vc] wb fun e w' => e = .returned (.map (some wb.heap.size)) ∧ Mi w' wb.heap.size cl.length (fsI cl) ∧ Below wb.heap.size wb w') := firsts_any vc cl wb (HWb.out wb (Below.refl _ _)).2.2.2.2 HFm.out
  obtain ⟨_, _, p0, p1, _⟩ := HWb.out wb (Below.refl _ _)
  go_upto_region 5 with (go_at_call 27; refine HFs.out.mono ?_; rintro e w2 ⟨rfl, m2, b2⟩; have H2 : Hid (Mi w2 wb.heap.size cl.length (fsI cl) ∧ Below wb.heap.size wb w2) := ⟨m2, b2⟩; obtain ⟨_, _, r0, r1, _⟩ := HWb.out w2 b2; clear m2 b2)
  obtain ⟨gs, hgs⟩ : ∃ gs, wb.heap.size = gs := ⟨_, rfl⟩
  have HM2 : Hid (Mi w2 gs cl.length (fsI cl)) := by rw [← hgs]; exact H2.out.1
  have HB2 : Hid (∀ W, Below w2.heap.size w2 W → Below w.heap.size w W ∧ Rz W xa t xc g t ∧ W.cell? ⟨Y, 0, none⟩ = some (.slice xa t.length xc) ∧ W.cell? ⟨Y, 1, none⟩ = some (.map (some g)) ∧ Rd W vc cl) := fun W hW => HWb.out W (Below.step H2.out.2 hW)
  rw [hgs]
  have HCo : Hid (Calls Try.prog 28 #[rV xa t.length xc g, .map (some gs)] w2 fun e w' => e = .returned (cvV w2.heap.size) ∧ CvA w2 w' w2.heap.size xa t xc g gs cl.length cl) := coverer_any w2 xa t xc g gs cl.length cl (HB2.out w2 (Below.refl _ _)).2.1 HM2.out
  obtain ⟨X, hX⟩ : ∃ X, w2.heap.size = X := ⟨_, rfl⟩
  rw [hX] at HCo
  obtain ⟨ua, uc, rfl, huc, hum, _⟩ := HZ.out.form
  clear HFs H2 HWb hgs p0 p1
  go_wp2_with (go_at_call 28; refine HCo.out.mono ?_; rintro e w3 ⟨rfl, h3⟩; have H3 : Hid (ShL w2 w3 X xa t xc g gs cl.length cl (.slice none 0 0) []) := ⟨h3, World.ownsRow_nil _ _ _ _⟩; clear h3)
  clear r0 r1
  go_loopg [10, 31] cl.length (fun g' u i wr => ∃ k : Nat, k + g' = cl.length ∧ i = .int .i64 k ∧ Hid (ShL w2 wr X xa t xc g gs cl.length cl u (shrK t cl k)))
  case atStart => exact ⟨0, by omega, rfl, H3.out⟩
  case round =>
    obtain ⟨k, hk, rfl, HL⟩ := hrel
    have HK : Hid (k + gk = cl.length) := hk
    obtain ⟨hbl, hrz, hst, hX5⟩ := HL.out.cv.facts
    obtain ⟨hbw, _, f0, f1, hrd⟩ := HB2.out wr hbl
    have HBw : Hid (Below w.heap.size w wr) := hbw
    have hsw : w.heap.size ≤ X := by rw [← hX]; exact (HB2.out w2 (Below.refl _ _)).1.size
    by_cases hlt : k < cl.length
    · obtain ⟨ua', uc', e', _, _, hcell⟩ := hrd.form
      injection e' with q1 q2 q3
      subst q1 q3
      obtain ⟨b2, off2, rfl, hck⟩ := hcell k hlt
      have hmem := getD_mem' (l := cl) (k := k) (d := 0) hlt
      obtain ⟨hfy, hpl, _, hlv, hplc⟩ := HWs.out.isF_at (HFl.out _ hmem)
      have hyr := fmd_range hfy
      have HPl : Hid (Calls Try.prog 29 #[rV xa t.length xc g, .int .i64 (cl.getD k 0)] wr fun e w' => e = .returned (.int .i64 (plN t (cl.getD k 0) : Int)) ∧ Below wr.heap.size wr w') := place_any xa t t xc g _ wr hrz
      have hsl := shrK_len t cl k
      have hShr : shrK t cl (k + 1) = if stay t cl k then shrK t cl k ++ [cl.getD k 0] else shrK t cl k := rfl
      have hSty : stay t cl k = (k == 0 || (decide (0 < lvl t (cl.getD k 0)) && !covB t (fun x => cl.contains x) (plN t (cl.getD k 0))) && fsI cl (cl.getD k 0) == some k) := rfl
      have hCv0 := covered_any w2
      have H5s : Hid (∀ w5, Below wr.heap.size wr w5 → ShL w2 w5 X xa t xc g gs cl.length cl u10 (shrK t cl k)) := fun w5 hb => HL.out.below hb
      have HCv : Hid (∀ w5, Below wr.heap.size wr w5 → Calls Try.prog 51 #[.int .i64 (plN t (cl.getD k 0) : Int), .pointer (some ⟨X + 4, 0, none⟩), .pointer (some ⟨X, 0, none⟩), .pointer (some ⟨X + 2, 0, none⟩), .pointer (some ⟨X + 5, 0, none⟩)] w5 fun e w' => e = .returned (.bool (covB t (fun x => cl.contains x) (plN t (cl.getD k 0)))) ∧ ShL w2 w' X xa t xc g gs cl.length cl u10 (shrK t cl k)) := fun w5 hb => (covered_any w2 w5 X xa t xc g gs cl.length cl _ (H5s.out w5 hb).cv hpl).mono fun e w' ⟨h1, h2, h3⟩ => ⟨h1, h2, World.ownsRow.kept (H5s.out w5 hb).own h3 (by
        cases e : u10.ownBlock with
        | none => exact .inl rfl
        | some j => exact .inr (fun q => by have := (World.ownsRow.lt (H5s.out w5 hb).own j e).1; have := Option.some.inj q; omega))⟩
      obtain ⟨bt, offt, ut, hxa, hblt, ct0, ct1, ct2, _⟩ := hrz.cells hpl
      have hlvq : (t.getD (plN t (cl.getD k 0)) e0).2.1 = lvl t (cl.getD k 0) := hlv.symm
      rw [hlvq] at ct1
      have hfs : ∃ i, fsI cl (cl.getD k 0) = some i := by
        have : (fsI cl (cl.getD k 0)).isSome = true := by rw [fsI_some]; simpa using hmem
        exact Option.isSome_iff_exists.1 this
      obtain ⟨fi, hfi⟩ := hfs
      have HG : Hid (∀ W, Mi W gs cl.length (fsI cl) → (Instr.lookup 49 (.map (some gs)) (.int .i64 (cl.getD k 0)) false).run Try.prog W = .ok (.int .i64 (fi : Int)) W) := fun W hW => by
        have := hW.get (x := cl.getD k 0) (by omega) (by omega)
        rw [hfi] at this; exact this
      have H5f : Hid (∀ w5, Below wr.heap.size wr w5 → w5.cell? ⟨Y, 0, none⟩ = some (.slice xa t.length xc) ∧ w5.cell? ⟨Y, 1, none⟩ = some (.map (some g)) ∧ w5.cell? ⟨bt, offt + plN t (cl.getD k 0) * 3 + 1, none⟩ = some (.int .i64 (lvl t (cl.getD k 0))) ∧ (Instr.lookup 49 (.map (some gs)) (.int .i64 (cl.getD k 0)) false).run Try.prog w5 = .ok (.int .i64 (fi : Int)) w5 ∧ X + 5 < w5.heap.size) := fun w5 hb => by
        have q := (H5s.out w5 hb).cv.facts
        have r := HB2.out w5 q.1
        exact ⟨r.2.2.1, r.2.2.2.1, (hb.cell (p := ⟨bt, offt + plN t (cl.getD k 0) * 3 + 1, none⟩) hblt).trans ct1, HG.out w5 q.2.2.1, q.2.2.2⟩
      have H6f : Hid (∀ w6, ShL w2 w6 X xa t xc g gs cl.length cl u10 (shrK t cl k) → (Instr.lookup 49 (.map (some gs)) (.int .i64 (cl.getD k 0)) false).run Try.prog w6 = .ok (.int .i64 (fi : Int)) w6 ∧ X + 5 < w6.heap.size) := fun w6 h => by
        have q := h.cv.facts
        exact ⟨HG.out w6 q.2.2.1, q.2.2.2⟩
      have HApp : Hid (∀ wz w7 v7, ShL w2 wz X xa t xc g gs cl.length cl u10 (shrK t cl k) → Own (X + 6) w7 v7 (shrK t cl k ++ [cl.getD k 0]) → Ap (wz.alloc (.cells #[.int .i64 (cl.getD k 0)] 3)) u10 w7 v7 → ShL w2 w7 X xa t xc g gs cl.length cl v7 (shrK t cl k ++ [cl.getD k 0])) := fun wz w7 v7 h ho ha => ⟨(h.cv.below (below_box _ _)).kept ha.grown (fun j hj => by have := (World.ownsRow.lt h.own j hj).1; omega), ho⟩
      subst hxa
      have hSt2 : stay t cl k = (k == 0 || (decide (0 < lvl t (cl.getD k 0)) && !covB t (fun x => cl.contains x) (plN t (cl.getD k 0))) && fi == k) := by
        rw [hSty, hfi]
        congr 1
      clear hCv0 hSty hcell hmem hfy hlv hplc hlvq hfi HG hrd hbw hst hrz hbl ct0 ct1 ct2 hblt hyr hk
      generalize covB t (fun x => cl.contains x) (plN t (cl.getD k 0)) = CB at *
      generalize plN t (cl.getD k 0) = px at *
      generalize lvl t (cl.getD k 0) = lx at *
      generalize hShk : shrK t cl k = O at *
      clear hShk
      generalize cl.getD k 0 = y at *
      by_cases hk0 : k = 0
      · subst hk0
        have HN : Hid (shrK t cl (0 + 1) = O ++ [y]) := by show _ = _; rw [hShr, hSt2]; rfl
        rw [show ((0 : Nat) : Int) = 0 from rfl]
        simp only [Nat.add_zero] at hck
        clear hShr hSt2
        by_cases hl0 : 0 < lx
        · have hl0d : decide (0 < lx) = true := decide_eq_true hl0
          go_wp2_with (first | (go_at_call 29; refine HPl.out.mono ?_; rintro e w5 ⟨rfl, b5⟩; have H5 : Hid (Below wr.heap.size wr w5) := b5; obtain ⟨s0, s1, s2, s3, s4⟩ := H5f.out w5 b5; clear b5) | (go_at_call 51; refine (HCv.out w5 H5.out).mono ?_; rintro e w6 ⟨rfl, h6⟩; have H6 : Hid (ShL w2 w6 X (some ⟨bt, offt, none⟩) t xc g gs cl.length cl u10 O) := h6; obtain ⟨s5, s6⟩ := H6f.out w6 h6; clear h6) | (at_builtin; refine wpList_app_rd rfl _ _ rfl (X + 6) u10 (.slice (some ⟨w6.heap.size, 0, none⟩) 1 1) O [y] rfl rfl (H6.out.own.below (below_box _ _)) (Own.rd (own_one15 w6 y) (by simp)) (by simp; omega) (by have := (H6.out.cv.facts).2.2.2; simp; omega) ?_; intro v7 w7 own7 ap7; have HH7 : Hid (ShL w2 w7 X (some ⟨bt, offt, none⟩) t xc g gs cl.length cl v7 (O ++ [y])) := HApp.out w6 w7 v7 H6.out own7 ap7; clear own7 ap7))
          go_roundg (gk - 1)
          case measure => have := HK.out; omega
          case rel => exact ⟨0 + 1, by have := HK.out; omega, by go_num, by rw [HN.out]; exact HH7.out⟩
        · have hl0d : decide (0 < lx) = false := decide_eq_false hl0
          go_wp2_with (first | (go_at_call 29; refine HPl.out.mono ?_; rintro e w5 ⟨rfl, b5⟩; have H5 : Hid (Below wr.heap.size wr w5) := b5; obtain ⟨s0, s1, s2, s3, s4⟩ := H5f.out w5 b5; clear b5) | (at_builtin; refine wpList_app_rd rfl _ _ rfl (X + 6) u10 (.slice (some ⟨w5.heap.size, 0, none⟩) 1 1) O [y] rfl rfl ((H5s.out w5 H5.out).own.below (below_box _ _)) (Own.rd (own_one15 w5 y) (by simp)) (by simp; omega) (by have := ((H5s.out w5 H5.out).cv.facts).2.2.2; simp; omega) ?_; intro v7 w7 own7 ap7; have HH7 : Hid (ShL w2 w7 X (some ⟨bt, offt, none⟩) t xc g gs cl.length cl v7 (O ++ [y])) := HApp.out w5 w7 v7 (H5s.out w5 H5.out) own7 ap7; clear own7 ap7))
          go_roundg (gk - 1)
          case measure => have := HK.out; omega
          case rel => exact ⟨0 + 1, by have := HK.out; omega, by go_num, by rw [HN.out]; exact HH7.out⟩
      · have hkb : ((k : Int) == 0) = false := beq_eq_false_iff_ne.2 (by omega)
        rw [show (k == 0) = false by simpa using hk0, Bool.false_or] at hSt2
        by_cases hl0 : 0 < lx
        · have hl0d : decide (0 < lx) = true := decide_eq_true hl0
          cases CB
          · by_cases hfk : fi = k
            · have HN : Hid (shrK t cl (k + 1) = O ++ [y]) := by show _ = _; rw [hShr, hSt2, hl0d, hfk]; simp
              have hfb : ((fi : Int) == (k : Int)) = true := by rw [hfk]; simp
              clear hShr hSt2
              go_wp2_with (first | (go_at_call 29; refine HPl.out.mono ?_; rintro e w5 ⟨rfl, b5⟩; have H5 : Hid (Below wr.heap.size wr w5) := b5; obtain ⟨s0, s1, s2, s3, s4⟩ := H5f.out w5 b5; clear b5) | (go_at_call 51; refine (HCv.out w5 H5.out).mono ?_; rintro e w6 ⟨rfl, h6⟩; have H6 : Hid (ShL w2 w6 X (some ⟨bt, offt, none⟩) t xc g gs cl.length cl u10 O) := h6; obtain ⟨s5, s6⟩ := H6f.out w6 h6; clear h6) | (at_builtin; refine wpList_app_rd rfl _ _ rfl (X + 6) u10 (.slice (some ⟨w6.heap.size, 0, none⟩) 1 1) O [y] rfl rfl (H6.out.own.below (below_box _ _)) (Own.rd (own_one15 w6 y) (by simp)) (by simp; omega) (by have := (H6.out.cv.facts).2.2.2; simp; omega) ?_; intro v7 w7 own7 ap7; have HH7 : Hid (ShL w2 w7 X (some ⟨bt, offt, none⟩) t xc g gs cl.length cl v7 (O ++ [y])) := HApp.out w6 w7 v7 H6.out own7 ap7; clear own7 ap7))
              go_roundg (gk - 1)
              case measure => have := HK.out; omega
              case rel => exact ⟨k + 1, by have := HK.out; omega, by go_num, by rw [HN.out]; exact HH7.out⟩
            · have HN : Hid (shrK t cl (k + 1) = O) := by show _ = _; rw [hShr, hSt2, show (fi == k) = false by simpa using hfk]; simp
              have hfb : ((fi : Int) == (k : Int)) = false := beq_eq_false_iff_ne.2 (by omega)
              clear hShr hSt2
              go_wp2_with (first | (go_at_call 29; refine HPl.out.mono ?_; rintro e w5 ⟨rfl, b5⟩; have H5 : Hid (Below wr.heap.size wr w5) := b5; obtain ⟨s0, s1, s2, s3, s4⟩ := H5f.out w5 b5; clear b5) | (go_at_call 51; refine (HCv.out w5 H5.out).mono ?_; rintro e w6 ⟨rfl, h6⟩; have H6 : Hid (ShL w2 w6 X (some ⟨bt, offt, none⟩) t xc g gs cl.length cl u10 O) := h6; obtain ⟨s5, s6⟩ := H6f.out w6 h6; clear h6))
              go_roundg (gk - 1)
              case measure => have := HK.out; omega
              case rel => exact ⟨k + 1, by have := HK.out; omega, by go_num, by rw [HN.out]; exact H6.out⟩
          · have HN : Hid (shrK t cl (k + 1) = O) := by show _ = _; rw [hShr, hSt2]; simp
            clear hShr hSt2
            go_wp2_with (first | (go_at_call 29; refine HPl.out.mono ?_; rintro e w5 ⟨rfl, b5⟩; have H5 : Hid (Below wr.heap.size wr w5) := b5; obtain ⟨s0, s1, s2, s3, s4⟩ := H5f.out w5 b5; clear b5) | (go_at_call 51; refine (HCv.out w5 H5.out).mono ?_; rintro e w6 ⟨rfl, h6⟩; have H6 : Hid (ShL w2 w6 X (some ⟨bt, offt, none⟩) t xc g gs cl.length cl u10 O) := h6; obtain ⟨s5, s6⟩ := H6f.out w6 h6; clear h6))
            go_roundg (gk - 1)
            case measure => have := HK.out; omega
            case rel => exact ⟨k + 1, by have := HK.out; omega, by go_num, by rw [HN.out]; exact H6.out⟩
        · have hl0d : decide (0 < lx) = false := decide_eq_false hl0
          have HN : Hid (shrK t cl (k + 1) = O) := by show _ = _; rw [hShr, hSt2, hl0d]; simp
          clear hShr hSt2
          go_wp2_with (first | (go_at_call 29; refine HPl.out.mono ?_; rintro e w5 ⟨rfl, b5⟩; have H5 : Hid (Below wr.heap.size wr w5) := b5; obtain ⟨s0, s1, s2, s3, s4⟩ := H5f.out w5 b5; clear b5))
          go_roundg (gk - 1)
          case measure => have := HK.out; omega
          case rel => exact ⟨k + 1, by have := HK.out; omega, by go_num, by rw [HN.out]; exact (H5s.out w5 H5.out)⟩
    · obtain rfl : k = cl.length := by omega
      clear hk
      go_wp2_with fail
      go_ret2
      exact ⟨⟨u10, rfl, HL.out.own.mono (by omega)⟩, HBw.out⟩
end Go.Proofs.Ytgngdohhlhlcpaa
set_option linter.unusedSimpArgs false
set_option linter.unusedVariables false
namespace Go.Proofs.Ytgngdohhlhlcpaa
open Go Go.RowKit
theorem fsI_here {cl : List Int} {k : Nat} (hk : k < cl.length) : (fsI cl (cl.getD k 0) == some k) = !((cl.take k).contains (cl.getD k 0)) := by
  rw [Bool.eq_iff_iff, beq_iff_eq, Bool.not_eq_true', List.contains_eq_any_beq]
  unfold fsI
  rw [List.findIdx?_eq_some_iff_getElem, List.any_eq_false]
  have e : cl.getD k 0 = cl[k] := by simp [List.getD_eq_getElem?_getD, hk]
  constructor
  · rintro ⟨_, _, h3⟩ x hx
    obtain ⟨j, hj, rfl⟩ := List.getElem_of_mem hx
    have hj' : j < k := by simp at hj; omega
    have := h3 j hj'
    simp only [List.getElem_take]
    intro q
    apply this
    rw [beq_iff_eq] at q ⊢
    exact q.symm
  · intro h
    refine ⟨hk, by rw [e]; simp, fun j hj => ?_⟩
    have := h cl[j] (by rw [List.mem_take_iff_getElem]; exact ⟨j, by omega, rfl⟩)
    intro q
    apply this
    rw [beq_iff_eq] at q ⊢
    exact q.symm
set_option maxRecDepth 100000 in
set_option maxHeartbeats 6400000 in
theorem rShrink_any (v vc : Value) (t : List Ent) (cl : List Int) (w : World) (hr : RdE w v t) (hz : Rd w vc cl) :
    Calls Try.prog 15 #[v, vc] w fun e w' => ShS w' w.heap.size t cl e ∧ Below w.heap.size w w' := by
  have hlz := hz.len
  have hl2 := hr.len
  have HAs : Hid (Calls Try.prog 33 #[v, vc] w fun e w' => e = .returned (.int .i64 (askI t cl)) ∧ ∃ m, w' = w.drewN m) := rAsked_any v vc t cl w hr hz
  have HR : Hid (RdE w v t) := hr
  have HZ : Hid (Rd w vc cl) := hz
  unfold ShS
  clear hr hz
  by_cases h0 : askI t cl = 0
  case neg =>
    rw [if_neg h0]
    have hb0 : (askI t cl == 0) = false := by simpa using h0
    generalize askI t cl = AI at *
    go_enter Try.func15, Try.ntmps15
    go_wp2_with (go_at_call 33; refine HAs.out.mono ?_; rintro e w1 ⟨rfl, m1, hw⟩; obtain rfl := hw)
    go_ret2
    exact ⟨⟨.slice none 0 0, rfl, World.ownsRow_nil _ _ _ _⟩, below_drewN _ _⟩
  have hk : frmE t = true ∧ cl.all fmd = true ∧ falB t cl = true := by
    unfold askI at h0
    cases e1 : frmE t <;> cases e2 : cl.all fmd <;> cases e3 : falB t cl <;> simp [e1, e2, e3] at h0 ⊢
  obtain ⟨hk1, hk2, hk3⟩ := hk
  have HWs : Hid (Ws t) := (frmE_iff t).1 hk1
  have HFl : Hid (∀ x ∈ cl, isF t x = true) := List.all_eq_true.1 hk3
  rw [h0] at HAs ⊢
  rw [if_pos rfl]
  have HCo : Hid (∀ m, Calls Try.prog 40 #[v, vc] (w.drewN m) fun e w' => ∃ u, e = .returned u ∧ OwnBl w.heap.size w' u (covN t (fun x => cl.contains x) t.length) ∧ Below w.heap.size w w') := fun m => (rCovered_any v vc t cl _ (HR.out.drewN m) (HZ.out.below (below_drewN w m)) HWs.out).mono fun e w' ⟨u, h1, h2, h3⟩ => ⟨u, h1, h2, Below.step (below_drewN w m) h3⟩
  obtain ⟨a, c, rfl, hc, hm, _⟩ := HR.out.form
  obtain ⟨ua, uc, rfl, huc, hum, _⟩ := HZ.out.form
  clear hk1 hk2 hk3 h0
  go_enter Try.func15, Try.ntmps15
  go_upto_region 5 with (first | (go_at_call 33; refine HAs.out.mono ?_; rintro e w1 ⟨rfl, m1, hw⟩; obtain rfl := hw) | (go_at_call 40; refine (HCo.out _).mono ?_; rintro e w2 ⟨u7, rfl, o2, b2⟩; have H2 : Hid (OwnBl w.heap.size w2 u7 (covN t (fun x => cl.contains x) t.length) ∧ Below w.heap.size w w2) := ⟨o2, b2⟩; clear o2 b2))
  obtain ⟨ca, cc, hu7, hcc, hcm, hccell⟩ := H2.out.1.form
  rw [covN_len] at hu7 hcc hccell
  subst hu7
  have HCc : Hid (∀ k, k < t.length → ∃ b, ca = some ⟨b, 0, none⟩ ∧ b < w2.heap.size ∧ w2.cell? ⟨b, k, none⟩ = some (.bool (covB t (fun x => cl.contains x) k))) := hccell
  have HB2 : Hid (∀ W, Below w2.heap.size w2 W → Below w.heap.size w W ∧ RdE W (.slice a t.length c) t ∧ Rd W (.slice ua cl.length uc) cl) := fun W hW => by
    have h1 : Below w.heap.size w W := Below.step H2.out.2 hW
    exact ⟨h1, HR.out.below h1, HZ.out.below h1⟩
  have hs2 := H2.out.2.size
  clear HAs HCo H2 hccell
  go_wp2_with fail
  go_loopg [8, 9] cl.length (fun g' u i wr => ∃ k : Nat, k + g' = cl.length ∧ i = .int .i64 k ∧ Hid (Own w2.heap.size wr u (shrK t cl k)) ∧ Hid (Below w2.heap.size w2 wr))
  case atStart => exact ⟨0, by omega, rfl, World.ownsRow_nil _ _ _ _, Below.refl _ _⟩
  case round =>
    obtain ⟨k, hk, rfl, HO, HB⟩ := hrel
    have HK : Hid (k + gk = cl.length) := hk
    obtain ⟨hbw, hre, hrd⟩ := HB2.out wr HB.out
    have HBw : Hid (Below w.heap.size w wr) := hbw
    by_cases hlt : k < cl.length
    · obtain ⟨ua', uc', e', _, _, hcell⟩ := hrd.form
      injection e' with q1 q2 q3
      subst q1 q3
      obtain ⟨b2, off2, rfl, hck⟩ := hcell k hlt
      have hmem := getD_mem' (l := cl) (k := k) (d := 0) hlt
      obtain ⟨hfy, hpl, _, hlv, hplc⟩ := HWs.out.isF_at (HFl.out _ hmem)
      have HPl : Hid (Calls Try.prog 37 #[.slice a t.length c, .int .i64 (cl.getD k 0)] wr fun e w' => e = .returned (.int .i64 (plN t (cl.getD k 0) : Int)) ∧ w' = wr) := by rw [← plI_plN HWs.out (HFl.out _ hmem)]; exact rPlace_any _ t _ _ hre hfy
      have hsl := shrK_len t cl k
      have hShr : shrK t cl (k + 1) = if stay t cl k then shrK t cl k ++ [cl.getD k 0] else shrK t cl k := rfl
      have hSty : stay t cl k = (k == 0 || (decide (0 < lvl t (cl.getD k 0)) && !covB t (fun x => cl.contains x) (plN t (cl.getD k 0))) && !((cl.take k).contains (cl.getD k 0))) := by rw [← fsI_here hlt]; rfl
      have hrt : Rd wr (.slice (some ⟨b2, off2, none⟩) k uc) (cl.take k) := by
        have hkl : (cl.take k).length = k := by simp; omega
        refine ⟨by rw [hkl]; omega, some ⟨b2, off2, none⟩, uc, by rw [hkl], by rw [hkl]; omega, hum, fun e => (by cases e), fun hne => ?_⟩
        obtain ⟨b3, off3, e3, _⟩ := hcell 0 (by omega)
        injection e3 with e3
        injection e3 with e4 e5
        subst e4 e5
        have hb3 : b2 < wr.heap.size := World.block_lt_of_cell? wr ⟨b2, off2 + k, none⟩ hck
        refine ⟨b2, off2, rfl, hb3, fun j hj => ?_⟩
        rw [hkl] at hj
        obtain ⟨b4, off4, e6, h6⟩ := hcell j (by omega)
        injection e6 with e6
        injection e6 with e7 e8
        subst e7 e8
        rw [h6]
        simp [List.getD_eq_getElem?_getD, List.getElem?_take, hj]
      have HHi : Hid (∀ n, Calls Try.prog 41 #[.slice (some ⟨b2, off2, none⟩) k uc, .int .i64 (cl.getD k 0)] (wr.drewN n) fun e w' => e = .returned (.bool ((cl.take k).contains (cl.getD k 0))) ∧ w' = wr.drewN n) := fun n => hasInt15_any _ _ _ _ (hrt.below (below_drewN _ n))
      obtain ⟨bt, offt, ut, hxa, hblt, ct0, ct1, ct2, _⟩ := hre.at hpl
      have hlvq : (t.getD (plN t (cl.getD k 0)) e0).2.1 = lvl t (cl.getD k 0) := hlv.symm
      rw [hlvq] at ct1
      obtain ⟨bc, hca, hbc, hcv0⟩ := HCc.out _ hpl
      have hcv : wr.cell? ⟨bc, plN t (cl.getD k 0), none⟩ = some (.bool (covB t (fun x => cl.contains x) (plN t (cl.getD k 0)))) := (HB.out.cell (p := ⟨bc, plN t (cl.getD k 0), none⟩) hbc).trans hcv0
      have HApp : Hid (∀ n w7 v7, Ap ((wr.drewN n).alloc (.cells #[.int .i64 (cl.getD k 0)] 3)) u8 w7 v7 → Below w2.heap.size w2 w7) := fun n w7 v7 ha => (Below.step (Below.step HB.out (below_drewN _ n)) (below_box _ _)).grown ha.grown (by have := HB.out.size; simp; omega) (fun j hj => (World.ownsRow.lt HO.out j hj).1)
      have hki : (k : Int) ≤ (uc : Int) := by omega
      subst hxa
      subst hca
      have hpi : (plN t (cl.getD k 0) : Int) < (t.length : Int) := by omega
      clear hcell hmem hfy hlv hplc hlvq hrd hre hbw hrt ct0 ct2 hblt hk hcv0 hbc
      generalize hct : (cl.take k).contains (cl.getD k 0) = CT at *
      generalize covB t (fun x => cl.contains x) (plN t (cl.getD k 0)) = CB at *
      generalize plN t (cl.getD k 0) = px at *
      generalize lvl t (cl.getD k 0) = lx at *
      generalize hShk : shrK t cl k = O at *
      clear hShk
      generalize cl.getD k 0 = y at *
      cases CT
      · rw [Bool.not_false, Bool.and_true] at hSty
        clear hct
        by_cases hk0 : k = 0
        · subst hk0
          have HN : Hid (shrK t cl (0 + 1) = O ++ [y]) := by show _ = _; rw [hShr, hSty]; rfl
          rw [show ((0 : Nat) : Int) = 0 from rfl]
          simp only [Nat.add_zero] at hck
          clear hShr hSty
          go_upto_region 10 with (go_at_call 37; refine HPl.out.mono ?_; rintro e w' ⟨rfl, hw⟩; obtain rfl := hw.symm)
          go_quiet ((go_at_call 41; exact Calls.quiet_of_same (HHi.out _)))
          go_wp2_with (at_builtin; refine wpList_app_rd rfl _ _ rfl w2.heap.size u8 (.slice (some ⟨(wr.drewN nq).heap.size, 0, none⟩) 1 1) O [y] rfl rfl ((HO.out.below (below_drewN _ _)).below (below_box _ _)) (Own.rd (own_one15 (wr.drewN nq) y) (by simp)) (by simp; omega) (by have := HB.out.size; simp; omega) ?_; intro v7 w7 own7 ap7; have HH7 : Hid (Own w2.heap.size w7 v7 (O ++ [y]) ∧ Below w2.heap.size w2 w7) := ⟨own7, HApp.out nq w7 v7 ap7⟩; clear own7 ap7)
          go_roundg (gk - 1)
          case measure => have := HK.out; omega
          case rel => exact ⟨0 + 1, by have := HK.out; omega, by go_num, by rw [HN.out]; exact HH7.out.1, HH7.out.2⟩
        · have hkb : ((k : Int) == 0) = false := beq_eq_false_iff_ne.2 (by omega)
          rw [show (k == 0) = false by simpa using hk0, Bool.false_or] at hSty
          by_cases hl0 : 0 < lx
          · have hl0d : decide (0 < lx) = true := decide_eq_true hl0
            cases CB
            · have HN : Hid (shrK t cl (k + 1) = O ++ [y]) := by show _ = _; rw [hShr, hSty, hl0d]; rfl
              clear hShr hSty
              go_upto_region 10 with (go_at_call 37; refine HPl.out.mono ?_; rintro e w' ⟨rfl, hw⟩; obtain rfl := hw.symm)
              go_quiet ((go_at_call 41; exact Calls.quiet_of_same (HHi.out _)))
              go_wp2_with (at_builtin; refine wpList_app_rd rfl _ _ rfl w2.heap.size u8 (.slice (some ⟨(wr.drewN nq).heap.size, 0, none⟩) 1 1) O [y] rfl rfl ((HO.out.below (below_drewN _ _)).below (below_box _ _)) (Own.rd (own_one15 (wr.drewN nq) y) (by simp)) (by simp; omega) (by have := HB.out.size; simp; omega) ?_; intro v7 w7 own7 ap7; have HH7 : Hid (Own w2.heap.size w7 v7 (O ++ [y]) ∧ Below w2.heap.size w2 w7) := ⟨own7, HApp.out nq w7 v7 ap7⟩; clear own7 ap7)
              go_roundg (gk - 1)
              case measure => have := HK.out; omega
              case rel => exact ⟨k + 1, by have := HK.out; omega, by go_num, by rw [HN.out]; exact HH7.out.1, HH7.out.2⟩
            · have HN : Hid (shrK t cl (k + 1) = O) := by show _ = _; rw [hShr, hSty]; simp
              clear hShr hSty
              go_upto_region 10 with (go_at_call 37; refine HPl.out.mono ?_; rintro e w' ⟨rfl, hw⟩; obtain rfl := hw.symm)
              go_quiet ((go_at_call 41; exact Calls.quiet_of_same (HHi.out _)))
              go_wp2_with fail
              go_roundg (gk - 1)
              case measure => have := HK.out; omega
              case rel => exact ⟨k + 1, by have := HK.out; omega, by go_num, by rw [HN.out]; exact HO.out.below (below_drewN _ _), Below.step HB.out (below_drewN _ _)⟩
          · have hl0d : decide (0 < lx) = false := decide_eq_false hl0
            have HN : Hid (shrK t cl (k + 1) = O) := by show _ = _; rw [hShr, hSty, hl0d]; simp
            clear hShr hSty
            go_upto_region 10 with (go_at_call 37; refine HPl.out.mono ?_; rintro e w' ⟨rfl, hw⟩; obtain rfl := hw.symm)
            go_quiet ((go_at_call 41; exact Calls.quiet_of_same (HHi.out _)))
            go_wp2_with fail
            go_roundg (gk - 1)
            case measure => have := HK.out; omega
            case rel => exact ⟨k + 1, by have := HK.out; omega, by go_num, by rw [HN.out]; exact HO.out.below (below_drewN _ _), Below.step HB.out (below_drewN _ _)⟩
      · have hk0 : ¬ k = 0 := fun e => by subst e; simp at hct
        have HN : Hid (shrK t cl (k + 1) = O) := by show _ = _; rw [hShr, hSty, show (k == 0) = false by simpa using hk0]; simp
        clear hShr hSty hct
        go_upto_region 10 with (go_at_call 37; refine HPl.out.mono ?_; rintro e w' ⟨rfl, hw⟩; obtain rfl := hw.symm)
        go_quiet ((go_at_call 41; exact Calls.quiet_of_same (HHi.out _)))
        go_wp2_with fail
        go_roundg (gk - 1)
        case measure => have := HK.out; omega
        case rel => exact ⟨k + 1, by have := HK.out; omega, by go_num, by rw [HN.out]; exact HO.out.below (below_drewN _ _), Below.step HB.out (below_drewN _ _)⟩
    · obtain rfl : k = cl.length := by omega
      clear hk
      go_wp2_with fail
      go_ret2
      exact ⟨⟨u8, rfl, HO.out.mono hs2⟩, HBw.out⟩
end Go.Proofs.Ytgngdohhlhlcpaa

/-
  pack's reader.clause, walked.
  KEEP: box own below mono lt set kept new trans refl app on grown cell out block size os tape output c f c0 c1 len nil form rd low set1 set2 not_row at cut drop
-/
import Derived.Test.YtidlljeiholboaaDoorPkM
set_option linter.unusedSimpArgs false
set_option linter.unusedVariables false
namespace Go.Proofs.YtidlljeiholboaaDoor
open Go Go.RowKit

/-- one step of a clause's reading -/
theorem clB_step (all : List UInt8) (f p : Nat) (acc : List Int) : clB all (f + 1) p acc = if (tkB 0 0 (all.drop p)).2.2 = 33 then ([], 33, all.length) else if (tkB 0 0 (all.drop p)).2.2 ≠ 0 then ([], (tkB 0 0 (all.drop p)).2.2, p) else if (tkB 0 0 (all.drop p)).1 = 0 then (acc, 0, p + (tkB 0 0 (all.drop p)).2.1) else if litO (tkB 0 0 (all.drop p)).1 = 0 then ([], 32, p) else clB all f (p + (tkB 0 0 (all.drop p)).2.1) (acc ++ [litO (tkB 0 0 (all.drop p)).1]) := rfl

/-- what a clause's reading leaves -/
def ClaP (w0 W : World) (D : Nat) (bv cv : Value) (r : List Int × Int × Nat) (e : Ending) (W' : World) : Prop :=
  ∃ v cv' cl', e = .returned (.tuple #[v, .int .i64 r.2.1]) ∧ Rk w0.heap.size D bv W' r.2.2 cv' cl' ∧ Own W.heap.size W' v r.1 ∧ (v.ownBlock = none ∨ v.ownBlock ≠ cv'.ownBlock) ∧ Mk W (rkQ D cv) W' (rkQ D cv')

set_option maxHeartbeats 3200000 in
set_option maxRecDepth 100000 in
theorem clause_any (w0 W : World) (D p : Nat) (all : List UInt8) (bv cv : Value) (cl : List Int) (hr : RdY w0 bv all) (hb0 : Below w0.heap.size w0 W) (hD : w0.heap.size ≤ D) (h : Rk w0.heap.size D bv W p cv cl) (hp : p ≤ all.length) (hne : 0 < all.length) (hbig : all.length ≤ 1099511627776) :
    Calls Tryd.prog 67 #[.pointer (some ⟨D, 0, none⟩)] W (ClaP w0 W D bv cv (clB all (all.length + 1) p [])) := by
  obtain ⟨i0, hi, hz0, hz1, hz2⟩ := info_parts Tryd.info3
  have HR : Hid (RdY w0 bv all) := hr
  obtain ⟨a, c, rfl, hc, hm, hcell⟩ := hr.form
  obtain ⟨b, off, rfl, hbl, _⟩ := hcell 0 hne
  have HK : Hid (Rk w0.heap.size D (.slice (some ⟨b, off, none⟩) all.length c) W p cv cl) := h
  have HB0 : Hid (Below w0.heap.size w0 W) := hb0
  have hDW : D < W.heap.size := h.box.lt
  have hs0 := hb0.size
  obtain ⟨u, hu, hou, hbu⟩ := own_cutB h.own
  obtain ⟨ua, uc, hue⟩ : ∃ ua uc, u = .slice ua 0 uc := own_form hou
  subst hue
  have hu2 : ∀ W', (Instr.sliceAt 27 cv none (some (.int .i64 0)) none).run Tryd.prog W' = .ok (.slice ua 0 uc) W' := fun W' => by
    rw [run_sliceAt_slice W' 27 cv _ _ _ (by simp [Program.elem, Tryd.underlying27])]; exact hu W'
  obtain ⟨HK1, HM1⟩ := h.cut hou hbu
  have HK1 : Hid (Rk w0.heap.size D (.slice (some ⟨b, off, none⟩) all.length c) (W.setCell ⟨D, 2, none⟩ (.slice ua 0 uc)) p (.slice ua 0 uc) []) := HK1
  have HM1 : Hid (Mk W (rkQ D cv) (W.setCell ⟨D, 2, none⟩ (.slice ua 0 uc)) (rkQ D (.slice ua 0 uc))) := HM1
  have HQ : Hid (∀ k, rkQ D cv k → w0.heap.size ≤ k) := fun k hk => by
    rcases hk with rfl | hk
    · exact hD
    · exact own_ge h.own k hk
  obtain ⟨c0, c1, c2⟩ := h.box.c
  obtain ⟨f1, f2⟩ := h.box.f
  clear hr hcell h hou hbu hb0
  obtain ⟨X, hX⟩ : ∃ X, X = clB all (all.length + 1) p [] := ⟨_, rfl⟩
  rw [← hX]
  have HX : Hid (clB all (all.length + 1) p [] = X) := hX.symm
  clear hX
  go_enter Tryd.func67, Tryd.ntmps67
  go_wp2
  clear c0 c1 c2 f1 f2 hu hu2
  generalize W.setCell ⟨D, 2, none⟩ (.slice ua 0 uc) = W1 at *
  go_loopg [2] (all.length + 1) (fun g x wr => ∃ (q : Nat) (cq : Value) (acc : List Int), x = .slice none 0 0 ∧ all.length < q + g ∧ q ≤ all.length ∧ acc.length ≤ q ∧ clB all g q acc = X ∧ Hid (Rk w0.heap.size D (.slice (some ⟨b, off, none⟩) all.length c) wr q cq acc) ∧ Hid (Mk W (rkQ D cv) wr (rkQ D cq)))
  case atStart => exact ⟨p, _, [], rfl, by omega, hp, by simp, HX.out, HK1.out, HM1.out⟩
  case round =>
    clear HX HK1 HM1
    obtain ⟨q, cq, acc, rfl, hg, hq, hacc, hX, RK, MK⟩ := hrel
    obtain ⟨g, rfl⟩ : ∃ g, gk = g + 1 := ⟨gk - 1, by omega⟩
    have HX : Hid (clB all (g + 1) q acc = X) := hX
    have HBr : Hid (Below w0.heap.size w0 wr) := MK.out.low HB0.out hs0 HQ.out
    have hsr := HBr.out.size
    have hsW := MK.out.size
    obtain ⟨c0, c1, c2⟩ := RK.out.box.c
    obtain ⟨f1, f2⟩ := RK.out.box.f
    obtain ⟨A, hA⟩ : ∃ A, (if c = q then some (⟨b, off, none⟩ : Addr) else some ⟨b, off + q, none⟩) = A := ⟨_, rfl⟩
    have HT : Hid (∀ k, Calls Tryd.prog 29 #[.slice A (all.length - q) (c - q)] (wr.drewN k) fun e w' => e = .returned (.tuple #[.int .u64 (tkB 0 0 (all.drop q)).1, .int .i64 (tkB 0 0 (all.drop q)).2.1, .int .i64 (tkB 0 0 (all.drop q)).2.2]) ∧ w' = wr.drewN k) := fun k => take_any _ _ _ (((HR.out.drop q hq hA).below HBr.out).below (below_drewN _ _))
    clear hX
    rcases tk_all (all.drop q) with ht | ht | ⟨n, hn, ht, hd⟩
    · rw [ht] at HT
      have hXe : X = ([], 33, all.length) := by rw [← HX.out, clB_step, ht]; rfl
      clear HX
      subst hXe
      go_wp2_with fail
      go_quiet ((go_at_call 29; exact Calls.quiet_of_same (HT.out _)))
      go_wp2
      go_returns
      have R9 := (RK.out.below (below_drewN wr nq)).at all.length
      exact ⟨_, cq, acc, rfl, R9, World.ownsRow_nil _ _ _ _, .inl rfl, (MK.out.trans (Mk.below (below_drewN wr nq) _)).trans (mk_set _)⟩
    · rw [ht] at HT
      have hXe : X = ([], 101, q) := by rw [← HX.out, clB_step, ht]; rfl
      clear HX
      subst hXe
      go_wp2_with fail
      go_quiet ((go_at_call 29; exact Calls.quiet_of_same (HT.out _)))
      go_wp2
      go_returns
      exact ⟨_, cq, acc, rfl, RK.out.below (below_drewN wr nq), World.ownsRow_nil _ _ _ _, .inl rfl, MK.out.trans (Mk.below (below_drewN wr nq) _)⟩
    · rw [ht] at HT
      have hXe : X = if n = 0 then (acc, 0, q + (numB n).length) else if litO n = 0 then ([], 32, q) else clB all g (q + (numB n).length) (acc ++ [litO n]) := by rw [← HX.out, clB_step, ht]; simp
      have hLp := numB_pos n
      have hLq : q + (numB n).length ≤ all.length := by
        have h1 := congrArg List.length hd
        simp only [List.length_drop, List.length_append] at h1
        omega
      have h10 := numB_10 hn
      have HLit : Hid (∀ W, Calls Tryd.prog 78 #[.int .u64 n] W fun e w' => e = .returned (.int .i64 (litO n)) ∧ w' = W) := fun W => literalOf_any n W hn
      clear HX ht hd
      generalize (numB n).length = L at *
      have HLf : Hid (0 < L ∧ q + L ≤ all.length ∧ L ≤ 10) := ⟨hLp, hLq, h10⟩
      have HNf : Hid (n < 18446744073709551616) := hn
      clear hLp hLq h10 hn
      by_cases hn0 : n = 0
      · rw [if_pos hn0] at hXe
        subst hn0
        subst hXe
        go_wp2_with fail
        go_quiet ((go_at_call 29; exact Calls.quiet_of_same (HT.out _)))
        obtain ⟨hLp, hLq, h10⟩ := HLf.out
        have R8 : Hid (Rk w0.heap.size D (.slice (some ⟨b, off, none⟩) all.length c) (wr.drewN nq) q cq acc) := RK.out.below (below_drewN wr nq)
        have R9 : Hid (Rk w0.heap.size D (.slice (some ⟨b, off, none⟩) all.length c) ((wr.drewN nq).setCell ⟨D, 1, none⟩ (.int .i64 ((q : Int) + (L : Int)))) (q + L) cq acc) := by
          have := R8.out.at (q + L)
          rw [Int.natCast_add] at this
          exact this
        have M9 : Hid (Mk W (rkQ D cv) ((wr.drewN nq).setCell ⟨D, 1, none⟩ (.int .i64 ((q : Int) + (L : Int)))) (rkQ D cq)) := (MK.out.trans (Mk.below (below_drewN wr nq) _)).trans (mk_set _)
        have hs9 := M9.out.size
        have hC2 := R9.out.box.c.2.2
        go_wp2_with (at_builtin; refine wpList_app_rd rfl _ _ rfl W.heap.size _ _ [] acc rfl rfl (World.ownsRow_nil _ _ _ _) (R9.out.own.rd (by omega)) (by simp; omega) hs9 ?_; intro v3 w3 own3 ap3)
        go_returns
        have bel3 := (Below.refl ((wr.drewN nq).setCell ⟨D, 1, none⟩ (.int .i64 ((q : Int) + (L : Int)))).heap.size _).grown ap3.grown (Nat.le_refl _) (fun k hk => by cases hk)
        refine ⟨_, cq, acc, rfl, R9.out.below bel3, own3, ?_, M9.out.trans (Mk.below bel3 _)⟩
        rcases ap3.new with e | e
        · exact .inl e
        · by_cases hv : v3.ownBlock = none
          · exact .inl hv
          · refine .inr fun e2 => ?_
            obtain ⟨k, hk⟩ := Option.ne_none_iff_exists'.1 hv
            have h1 := e k hk
            have h2 := (World.ownsRow.lt R9.out.own k (by rw [← e2]; exact hk)).2
            omega
      · rw [if_neg hn0] at hXe
        have hnb : ((n : Int) == 0) = false := beq_eq_false_iff_ne.2 (by omega)
        by_cases hl0 : litO n = 0
        · rw [if_pos hl0] at hXe
          subst hXe
          have HLit0 : Hid (∀ W, Calls Tryd.prog 78 #[.int .u64 n] W fun e w' => e = .returned (.int .i64 0) ∧ w' = W) := fun W => by have := HLit.out W; rwa [hl0] at this
          clear HLit hl0
          go_wp2_with fail
          go_quiet ((go_at_call 29; exact Calls.quiet_of_same (HT.out _)))
          obtain ⟨hLp, hLq, h10⟩ := HLf.out
          go_wp2_with (go_at_call 78; refine (HLit0.out _).mono ?_; rintro e w4 ⟨rfl, rfl⟩)
          go_returns
          exact ⟨_, cq, acc, rfl, RK.out.below (below_drewN wr nq), World.ownsRow_nil _ _ _ _, .inl rfl, MK.out.trans (Mk.below (below_drewN wr nq) _)⟩
        · rw [if_neg hl0] at hXe
          have HX2 : Hid (X = clB all g (q + L) (acc ++ [litO n])) := hXe
          have hzb : (litO n == 0) = false := beq_eq_false_iff_ne.2 hl0
          have hzr : -9223372036854775808 ≤ litO n ∧ litO n ≤ 9223372036854775807 := by have := fmd_range (litO_some hl0).1; omega
          clear hXe hl0
          generalize litO n = z at *
          go_wp2_with fail
          go_quiet ((go_at_call 29; exact Calls.quiet_of_same (HT.out _)))
          obtain ⟨hLp, hLq, h10⟩ := HLf.out
          have R8 : Hid (Rk w0.heap.size D (.slice (some ⟨b, off, none⟩) all.length c) (wr.drewN nq) q cq acc) := RK.out.below (below_drewN wr nq)
          have R9 : Hid (Rk w0.heap.size D (.slice (some ⟨b, off, none⟩) all.length c) ((wr.drewN nq).setCell ⟨D, 1, none⟩ (.int .i64 ((q : Int) + (L : Int)))) (q + L) cq acc) := by
            have := R8.out.at (q + L)
            rw [Int.natCast_add] at this
            exact this
          have M9 : Hid (Mk W (rkQ D cv) ((wr.drewN nq).setCell ⟨D, 1, none⟩ (.int .i64 ((q : Int) + (L : Int)))) (rkQ D cq)) := (MK.out.trans (Mk.below (below_drewN wr nq) _)).trans (mk_set _)
          have hs9 := M9.out.size
          go_upto_region 14 with (go_at_call 78; refine (HLit.out _).mono ?_; rintro e w4 ⟨rfl, rfl⟩)
          clear c0 c1 c2 f1 f2 R8
          generalize (wr.drewN nq).setCell ⟨D, 1, none⟩ (.int .i64 ((q : Int) + (L : Int))) = W9 at *
          have hC2 := R9.out.box.c.2.2
          go_wp2_with (at_builtin; refine wpList_append_apk rfl _ _ 27 rfl w0.heap.size 3 i0 (.int .i64 0) 1 8 Tryd.underlying27 hi hz0 hz1 hz2 rfl (by decide) _ acc.length (acc.map (Value.int .i64)) rfl (World.ownsRow.alloc R9.out.own _) _ 1 1 [.int .i64 z] rfl rfl (cell_one_new _ _ _) (by simp [Value.oneCell']) (by unfold maxLen; omega) (by omega) (by simp; omega) ?_; intro v7 w7 own7 ap7; refine Hid.out ?_)
          refine Lib.hid ?_
          obtain ⟨b7, R7, M7⟩ := R9.out.app own7 ap7
          obtain ⟨a7, x7, rfl⟩ : ∃ a x, v7 = .slice a (acc.length + 1) x := by
            have := own_form (own_one_more own7)
            simpa using this
          have F7 := b7.f
          have C7 := b7.c
          obtain ⟨C70, C71, C72⟩ := C7
          obtain ⟨F71, F72⟩ := F7
          clear hC2
          go_wp2
          go_roundg g
          case measure => omega
          case rel => exact ⟨q + L, _, acc ++ [z], rfl, by omega, by omega, by simp; omega, HX2.out.symm, R7, M9.out.trans M7⟩

end Go.Proofs.YtidlljeiholboaaDoor

/-
  The document's Decode, walked.
  KEEP: box own below mono lt set kept new trans refl app on grown cell out block size os tape output c f c0 c1 f0 f1 len nil form rd rdz low set0 set1 set2 not_row at cut drop row ap bel rk
-/
import Derived.Test.YtidlljeiholboaaDoorPkT
set_option linter.unusedSimpArgs false
set_option linter.unusedVariables false
namespace Go.Proofs.YtidlljeiholboaaDoor
open Go Go.RowKit

set_option maxHeartbeats 3200000 in
set_option maxRecDepth 100000 in
theorem rDecode_any (w : World) (bv : Value) (all : List UInt8) (hr : RdY w bv all) (hbig : all.length ≤ 1099511627776) :
    Calls Tryd.prog 50 #[bv] w (DecP w (decB all)) := by
  obtain ⟨il, hil, hzl0, hzl1, hzl2⟩ := info_parts infoZ
  have HR : Hid (RdY w bv all) := hr
  obtain ⟨a, c, rfl, hc, hm, _⟩ := hr.form
  clear hr
  obtain ⟨X, hX⟩ : ∃ X, X = decB all := ⟨_, rfl⟩
  rw [← hX]
  have HX : Hid (dcB all (all.length + 1) 0 [] = X) := hX.symm
  clear hX
  go_enter Tryd.func50, Tryd.ntmps50
  go_wp2
  go_loopg [5, 6] (all.length + 1) (fun g u i wr => ∃ (q : Nat) (L : List SV), i = .int .i64 q ∧ all.length < q + g ∧ q ≤ all.length ∧ L.length ≤ q ∧ dcB all g q (svS L) = X ∧ Hid (OwnZ w.heap.size wr u L) ∧ Hid (Below w.heap.size w wr))
  case atStart => exact ⟨0, [], rfl, by omega, by omega, by simp, HX.out, OwnZ.nil _ _, Below.refl _ _⟩
  case round =>
    clear HX
    obtain ⟨q, L, rfl, hg, hq, hL, hX, OZ, BL⟩ := hrel
    obtain ⟨g, rfl⟩ : ∃ g, gk = g + 1 := ⟨gk - 1, by omega⟩
    have hs := BL.out.size
    by_cases hlt : q < all.length
    · rw [dcB_more all g q _ hlt] at hX
      have HX : Hid ((if (stB all q).2.1 = 0 then dcB all g (stB all q).2.2 (svS L ++ [(stB all q).1]) else ([], (stB all q).2.1, (stB all q).2.2)) = X) := hX
      have HSt : Hid (Calls Tryd.prog 65 #[.slice a all.length c, .int .i64 q] wr (RstP wr (stB all q))) := rStep_any wr q all _ (HR.out.below BL.out) hlt hbig
      have HOn : Hid ((stB all q).2.1 = 0 → q < (stB all q).2.2 ∧ (stB all q).2.2 ≤ all.length) := st_on all q hlt
      have HLe : Hid ((stB all q).2.2 ≤ all.length) := st_le all q hlt
      clear hX
      generalize stB all q = r at *
      obtain ⟨⟨d, z⟩, e, p2⟩ := r
      dsimp only at *
      have hp2 := HLe.out
      go_wp2_with fail
      refine HSt.out.mono ?_
      rintro e1 w1 ⟨d', v, rfl, hd', own1, bel1⟩
      dsimp only at *
      have OZ1 : Hid (OwnZ w.heap.size w1 _ L) := OZ.out.below bel1
      have HAP : Hid (ApartC ((L ++ [(d, v, z)]).map Prod.snd)) := by
        show ApartC _
        rw [List.map_append]
        exact ApartC.snoc (W := wr) OZ.out.ap (fun x hx => by obtain ⟨y, hy, rfl⟩ := List.mem_map.1 hx; exact OZ.out.own y hy) own1 (Nat.le_refl _)
      have O1 : Hid (Own w.heap.size w1 v z) := own1.mono hs
      have B1 : Hid (Below w.heap.size w w1) := BL.out.trans (bel1.mono hs)
      obtain ⟨va, vc, hv⟩ := own_form own1
      generalize z.length = vl at hv
      subst hv
      have BXE : Hid (Bx2 (w1.alloc (.cells #[.bool d', .slice va vl vc] 29)) w1.heap.size 29 (.bool d') (.slice va vl vc)) := Bx2.new _ _ _ _
      have O2 : Hid (Own w.heap.size (w1.alloc (.cells #[.bool d', .slice va vl vc] 29)) (.slice va vl vc) z) := O1.out.below (below_box _ _)
      have OZ2 : Hid (OwnZ w.heap.size (w1.alloc (.cells #[.bool d', .slice va vl vc] 29)) _ L) := OZ1.out.below (below_box _ _)
      have B2 : Hid (Below w.heap.size w (w1.alloc (.cells #[.bool d', .slice va vl vc] 29))) := B1.out.alloc B1.out.size _
      have HD : Hid (e = 0 → d' = d) := hd'
      clear HSt own1 bel1 OZ OZ1 O1 hd'
      by_cases he : e = 0
      · subst he
        obtain rfl := HD.out rfl
        have HX2 : Hid (dcB all g p2 (svS L ++ [(d', z)]) = X) := by have := HX.out; rwa [if_pos rfl] at this
        obtain ⟨ho1, ho2⟩ := HOn.out rfl
        clear HX
        go_upto_region 7 with fail
        generalize w1.alloc (.cells #[.bool d', .slice va vl vc] 29) = w2 at *
        generalize w1.heap.size = E2 at *
        have hs2 := B2.out.size
        have k0 := BXE.out.c0
        have k1 := BXE.out.c1
        go_wp2_with (at_builtin; refine wpList_append_own _ rfl _ _ 22 rfl w.heap.size 29 il (.agg #[.bool false, .slice none 0 0]) 2 32 Tryd.underlying22 hil hzl0 hzl1 hzl2 rfl (by decide) _ L.length (svC L) rfl (World.ownsRow.alloc OZ2.out.row _) _ 1 1 [.bool d', .slice va vl vc] rfl rfl (cell_two_new9 _ _ _ _) (by simp [Value.oneCell']) (by unfold maxLen; omega) (by omega) (by simp; omega) ?_; intro v7 w7 own7 gr7 hn7)
        go_roundg g
        case measure => omega
        case rel => exact ⟨p2, L ++ [(d', Value.slice va vl vc, z)], rfl, by omega, by omega, by simp; omega, by rw [svS_snoc]; exact HX2.out, OZ2.out.app (World.grownBy_alloc _ _ none) own7 gr7 O2.out HAP.out, (B2.out.alloc hs2 _).grown gr7 (by simp; omega) (fun j hj => (World.ownsRow.lt OZ2.out.row j hj).1)⟩
      · have HX2 : Hid (X = ([], e, p2)) := by have := HX.out; rw [if_neg he] at this; exact this.symm
        have heb : (e == 0) = false := beq_eq_false_iff_ne.2 he
        clear HX he
        go_wp2
        go_returns
        rw [HX2.out]
        exact ⟨_, rfl, ⟨[], OwnZ.nil _ _, rfl⟩, B2.out⟩
    · have HX2 : Hid (X = (svS L, 0, 0)) := by show _ = _; rw [← hX, dc_end all _ _ _ (by omega)]
      clear hX
      go_wp2
      go_returns
      rw [HX2.out]
      exact ⟨_, rfl, ⟨L, OZ.out, rfl⟩, BL.out⟩

end Go.Proofs.YtidlljeiholboaaDoor

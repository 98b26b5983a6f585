/-
  pack.Decode, walked.
  KEEP: box own below mono lt set kept new trans refl app on grown cell out block size os tape output c f c0 c1 f0 len nil form rd rdz low set0 set1 set2 not_row at cut drop row ap bel rk
-/
import Derived.Test.YtidlljeiholboaaDoorPkS
import Derived.Test.YtidlljeiholboaaDoorDrC
set_option linter.unusedSimpArgs false
set_option linter.unusedVariables false
namespace Go.Proofs.YtidlljeiholboaaDoor
open Go Go.RowKit

theorem Bx3.not_rowZ {W : World} {D : Nat} {x0 x1 x2 : Value} (h : Bx3 W D x0 x1 x2) {base n : Nat} {v : Value} {xs : List Value} (hr : W.ownsRow base 29 2 v n xs) : some D ≠ v.ownBlock := by
  rcases hr.2 with ⟨rfl, _⟩ | ⟨g, cap, cur, rfl, _, hgb, _⟩
  · simp [Value.ownBlock]
  · intro e'
    have e2 : D = g := by simpa [Value.ownBlock] using e'
    subst e2
    rw [show W.heap[D]? = _ from h] at hgb
    cases hgb
theorem own_not_rowZ {W : World} {base base' n : Nat} {u v : Value} {xs : List Value} {zs : List Int} (ho : Own base' W u zs) (hr : W.ownsRow base 29 2 v n xs) {k : Nat} (h1 : some k = u.ownBlock) (h2 : some k = v.ownBlock) : False := by
  rcases hr.2 with ⟨rfl, _⟩ | ⟨g, cap, cur, rfl, _, hgb, _⟩
  · cases h2
  · rcases ho.2 with ⟨rfl, _⟩ | ⟨g', cap', cur', rfl, _, hgb', _⟩
    · cases h1
    · have e1 : k = g' := by simpa [Value.ownBlock] using h1
      have e2 : k = g := by simpa [Value.ownBlock] using h2
      subst e1; subst e2
      rw [hgb] at hgb'
      cases hgb'
/-- the reader and the steps so far -/
structure Dk (w : World) (D : Nat) (bv : Value) (wr : World) (u : Value) (L : List SV) (q : Nat) (cv : Value) (cl : List Int) : Prop where
  rk : Rk w.heap.size D bv wr q cv cl
  oz : OwnZ w.heap.size wr u L
  ap : ∀ x ∈ L, x.2.1.ownBlock = none ∨ x.2.1.ownBlock ≠ cv.ownBlock
  bel : Below w.heap.size w wr
  ge : w.heap.size ≤ D
theorem Dk.kept {w : World} {D : Nat} {bv : Value} {wr w1 : World} {u : Value} {L : List SV} {q q' : Nat} {cv cv' : Value} {cl cl' : List Int} (h : Dk w D bv wr u L q cv cl) (mk : Mk wr (rkQ D cv) w1 (rkQ D cv')) (rk1 : Rk w.heap.size D bv w1 q' cv' cl') : Dk w D bv w1 u L q' cv' cl' := by
  have hrow : ∀ k, some k = u.ownBlock → w1.heap[k]? = wr.heap[k]? := fun k hk => mk.block k (World.ownsRow.lt h.oz.row k hk.symm).2 (fun hq => by
    rcases hq with rfl | hq
    · exact h.rk.box.not_rowZ h.oz.row hk
    · exact own_not_rowZ h.rk.own h.oz.row hq hk)
  have hlist : ∀ x ∈ L, ∀ k, some k = x.2.1.ownBlock → ¬ rkQ D cv k := fun x hx k hk hq => by
    rcases hq with rfl | hq
    · exact h.rk.box.not_row (h.oz.own x hx) hk
    · rcases h.ap x hx with e | e
      · rw [e] at hk; cases hk
      · exact e (by rw [← hk, ← hq])
  refine ⟨rk1, ⟨⟨h.oz.row.1, ?_⟩, fun x hx => own_keepB (h.oz.own x hx) fun k hk => mk.block k (World.ownsRow.lt (h.oz.own x hx) k hk.symm).2 (hlist x hx k hk), h.oz.ap⟩, fun x hx => ?_, mk.low h.bel h.bel.size (fun k hk => ?_), h.ge⟩
  · rcases h.oz.row.2 with hn | ⟨g, cap, cur, hv, hg, hh, r⟩
    · exact .inl hn
    · exact .inr ⟨g, cap, cur, hv, hg, (hrow g (by rw [hv]; rfl)).trans hh, r⟩
  · by_cases hx0 : x.2.1.ownBlock = none
    · exact .inl hx0
    · refine .inr fun e => ?_
      obtain ⟨k, hk⟩ := Option.ne_none_iff_exists'.1 hx0
      rcases mk.new k (.inr (by rw [← e, hk])) with hq | hq
      · exact hlist x hx k hk.symm hq
      · have := (World.ownsRow.lt (h.oz.own x hx) k hk).2; omega
  · rcases hk with rfl | hk
    · exact h.ge
    · exact own_ge h.rk.own k hk
theorem Dk.below {w : World} {D : Nat} {bv : Value} {wr w1 : World} {u : Value} {L : List SV} {q : Nat} {cv : Value} {cl : List Int} (h : Dk w D bv wr u L q cv cl) (hb : Below wr.heap.size wr w1) : Dk w D bv w1 u L q cv cl := h.kept (Mk.below hb _) (h.rk.below hb)
/-- one step more -/
theorem Dk.app {w : World} {D : Nat} {bv : Value} {wr wa w3 : World} {u u' v : Value} {L : List SV} {q : Nat} {cv : Value} {cl : List Int} {d : Bool} {z : List Int} (h : Dk w D bv wr u L q cv cl) (hv : Own w.heap.size wr v z) (hap : ApartC ((L ++ [(d, v, z)]).map Prod.snd)) (hvc : v.ownBlock = none ∨ v.ownBlock ≠ cv.ownBlock) (ha : Below wr.heap.size wr wa)
    (own' : w3.ownsRow w.heap.size 29 2 u' (L.length + 1) (svC L ++ [.bool d, v])) (hg : wa.grownBy w3 u.ownBlock) : Dk w D bv w3 u' (L ++ [(d, v, z)]) q cv cl := by
  have rowa := World.ownsRow.kept h.oz.row (grown_below ha) (one_or _)
  have rka := h.rk.below ha
  refine ⟨⟨rka.box.kept (hg.block D rka.box.lt (rka.box.not_rowZ rowa)), row_apart (by decide) rka.own rowa hg⟩, h.oz.app (grown_below ha) own' hg hv hap, fun x hx => ?_, (h.bel.trans (ha.mono h.bel.size)).grown hg (Nat.le_trans h.bel.size ha.size) (fun k hk => (World.ownsRow.lt rowa k hk).1), h.ge⟩
  rcases List.mem_append.1 hx with hx | hx
  · exact h.ap x hx
  · obtain rfl : x = (d, v, z) := by simpa using hx
    exact hvc
theorem Dk.apart {w : World} {D : Nat} {bv : Value} {wr w1 : World} {u v : Value} {L : List SV} {q : Nat} {cv : Value} {cl : List Int} {d : Bool} {z : List Int} (h : Dk w D bv wr u L q cv cl) (hv : Own wr.heap.size w1 v z) : ApartC ((L ++ [(d, v, z)]).map Prod.snd) := by
  rw [List.map_append]
  exact ApartC.snoc (W := wr) h.oz.ap (fun x hx => by obtain ⟨y, hy, rfl⟩ := List.mem_map.1 hx; exact h.oz.own y hy) hv (Nat.le_refl _)

theorem dcB_more (all : List UInt8) (g q : Nat) (acc : List Stp) (h : q < all.length) : dcB all (g + 1) q acc = if (stB all q).2.1 = 0 then dcB all g (stB all q).2.2 (acc ++ [(stB all q).1]) else ([], (stB all q).2.1, (stB all q).2.2) := by rw [dcB, if_pos h]
theorem st_on (all : List UInt8) (q : Nat) (h : q < all.length) (h0 : (stB all q).2.1 = 0) : q < (stB all q).2.2 ∧ (stB all q).2.2 ≤ all.length := by
  rcases st_say all q h with ⟨x, h1⟩ | ⟨x, hx, h1, h2, h3⟩ | ⟨d, c, ee, y, he, hc, h1, h2, h3⟩ | ⟨y, h1, h2, h3⟩
  · rw [h1] at h0; cases h0
  · rw [h1]; have : 0 < (stpB x).length := by simp [stpB]
    exact ⟨by show q < q + _; omega, h3⟩
  · rw [h1] at h0; rcases he with rfl | rfl <;> cases h0
  · rw [h1] at h0; cases h0
theorem st_le (all : List UInt8) (q : Nat) (h : q < all.length) : (stB all q).2.2 ≤ all.length := by
  rcases st_say all q h with ⟨x, h1⟩ | ⟨x, hx, h1, h2, h3⟩ | ⟨d, c, ee, y, he, hc, h1, h2, h3⟩ | ⟨y, h1, h2, h3⟩ <;> rw [h1]
  · exact Nat.le_refl _
  · exact h3
  · exact Nat.le_of_lt h3
  · exact Nat.le_of_lt h

/-- what Decode leaves -/
def DecP (w : World) (r : List Stp × Int × Nat) (e : Ending) (w' : World) : Prop :=
  ∃ v, e = .returned (.tuple #[v, .int .i64 r.2.1, .int .i64 r.2.2]) ∧ OwnS w.heap.size w' v r.1 ∧ Below w.heap.size w w'

set_option maxHeartbeats 3200000 in
set_option maxRecDepth 100000 in
theorem decode_any (w : World) (bv : Value) (all : List UInt8) (hr : RdY w bv all) (hbig : all.length ≤ 1099511627776) :
    Calls Tryd.prog 28 #[bv] w (DecP w (decB all)) := by
  obtain ⟨il, hil, hzl0, hzl1, hzl2⟩ := info_parts infoZ
  have HR : Hid (RdY w bv all) := hr
  obtain ⟨a, c, rfl, hc, hm, _⟩ := hr.form
  have DK0 : Hid (Dk w w.heap.size (.slice a all.length c) (w.alloc (.cells #[.slice a all.length c, .int .i64 0, .slice none 0 0] 79)) (.slice none 0 0) [] 0 (.slice none 0 0) []) :=
    ⟨⟨Bx3.new _ _ _ _, World.ownsRow_nil _ _ _ _⟩, OwnZ.nil _ _, fun x hx => (by cases hx), below_box _ _, Nat.le_refl _⟩
  clear hr
  obtain ⟨X, hX⟩ : ∃ X, X = decB all := ⟨_, rfl⟩
  rw [← hX]
  have HX : Hid (dcB all (all.length + 1) 0 [] = X) := hX.symm
  clear hX
  go_enter Tryd.func28, Tryd.ntmps28
  go_wp2
  go_loopg [5] (all.length + 1) (fun g u wr => ∃ (q : Nat) (L : List SV) (cv : Value) (cl : List Int), all.length < q + g ∧ q ≤ all.length ∧ L.length ≤ q ∧ dcB all g q (svS L) = X ∧ Hid (Dk w w.heap.size (.slice a all.length c) wr u L q cv cl))
  case atStart => exact ⟨0, [], _, [], by omega, by omega, by simp, HX.out, DK0.out⟩
  case round =>
    clear HX DK0
    obtain ⟨q, L, cv, cl, hg, hq, hL, hX, DK⟩ := hrel
    obtain ⟨g, rfl⟩ : ∃ g, gk = g + 1 := ⟨gk - 1, by omega⟩
    obtain ⟨c0, c1, c2⟩ := DK.out.rk.box.c
    have hs := DK.out.bel.size
    by_cases hlt : q < all.length
    · rw [dcB_more all g q _ hlt] at hX
      have HX : Hid ((if (stB all q).2.1 = 0 then dcB all g (stB all q).2.2 (svS L ++ [(stB all q).1]) else ([], (stB all q).2.1, (stB all q).2.2)) = X) := hX
      have HSt : Hid (Calls Tryd.prog 52 #[.pointer (some ⟨w.heap.size, 0, none⟩)] wr (StpP w wr w.heap.size (.slice a all.length c) cv (stB all q))) := step_any w wr w.heap.size q all _ cv cl HR.out DK.out.bel (Nat.le_refl _) DK.out.rk hlt hbig
      have HOn : Hid ((stB all q).2.1 = 0 → q < (stB all q).2.2 ∧ (stB all q).2.2 ≤ all.length) := st_on all q hlt
      have HLe : Hid ((stB all q).2.2 ≤ all.length) := st_le all q hlt
      clear hX
      generalize stB all q = r at *
      obtain ⟨⟨d, z⟩, e, p2⟩ := r
      dsimp only at *
      have hp2 := HLe.out
      go_wp2_with fail
      refine HSt.out.mono ?_
      rintro e1 w1 ⟨v, cv', cl', rfl, rk1, own1, ap1, mk1⟩
      dsimp only at *
      have DK1 : Hid (Dk w w.heap.size (.slice a all.length c) w1 _ L p2 cv' cl') := DK.out.kept mk1 rk1
      have HAP : Hid (ApartC ((L ++ [(d, v, z)]).map Prod.snd)) := DK.out.apart own1
      have O1 : Hid (Own w.heap.size w1 v z) := own1.mono hs
      have HVC : Hid (v.ownBlock = none ∨ v.ownBlock ≠ cv'.ownBlock) := ap1
      obtain ⟨va, vc, hv⟩ := own_form own1
      generalize z.length = vl at hv
      subst hv
      have DK2 : Hid (Dk w w.heap.size (.slice a all.length c) (w1.alloc (.cells #[.bool d, .slice va vl vc] 29)) _ L p2 cv' cl') := DK1.out.below (below_box _ _)
      obtain ⟨d0, d1, d2⟩ := DK2.out.rk.box.c
      have hs1 := DK1.out.bel.size
      clear c0 c1 c2 HSt rk1 own1 ap1 mk1 DK
      by_cases he : e = 0
      · subst he
        have HX2 : Hid (dcB all g p2 (svS L ++ [(d, z)]) = X) := by have := HX.out; rwa [if_pos rfl] at this
        obtain ⟨ho1, ho2⟩ := HOn.out rfl
        have BXE : Hid (Bx2 (w1.alloc (.cells #[.bool d, .slice va vl vc] 29)) w1.heap.size 29 (.bool d) (.slice va vl vc)) := Bx2.new _ _ _ _
        have O2 : Hid (Own w.heap.size (w1.alloc (.cells #[.bool d, .slice va vl vc] 29)) (.slice va vl vc) z) := O1.out.below (below_box _ _)
        clear HX
        go_upto_region 7 with fail
        clear d0 d1 d2 hs1 DK1 O1
        generalize w1.alloc (.cells #[.bool d, .slice va vl vc] 29) = w2 at *
        generalize w1.heap.size = E2 at *
        have hs2 := DK2.out.bel.size
        have k0 := BXE.out.c0
        have k1 := BXE.out.c1
        go_wp2_with (at_builtin; refine wpList_append_own _ rfl _ _ 22 rfl w.heap.size 29 il (.agg #[.bool false, .slice none 0 0]) 2 32 Tryd.underlying22 hil hzl0 hzl1 hzl2 rfl (by decide) _ L.length (svC L) rfl (World.ownsRow.alloc DK2.out.oz.row _) _ 1 1 [.bool d, .slice va vl vc] rfl rfl (cell_two_new9 _ _ _ _) (by simp [Value.oneCell']) (by unfold maxLen; omega) (by omega) (by simp; omega) ?_; intro v7 w7 own7 gr7 hn7)
        go_roundg g
        case measure => omega
        case rel => exact ⟨p2, L ++ [(d, Value.slice va vl vc, z)], cv', cl', by omega, by omega, by simp; omega, by rw [svS_snoc]; exact HX2.out, DK2.out.app O2.out HAP.out HVC.out (below_box _ _) own7 gr7⟩
      · have HX2 : Hid (X = ([], e, p2)) := by have := HX.out; rw [if_neg he] at this; exact this.symm
        have heb : (e == 0) = false := beq_eq_false_iff_ne.2 he
        clear HX he
        go_wp2_with fail
        go_quiet (fail)
        go_wp2
        go_returns
        rw [HX2.out]
        exact ⟨_, rfl, ⟨[], OwnZ.nil _ _, rfl⟩, (DK2.out.below (below_drewN _ _)).bel⟩
    · have HX2 : Hid (X = (svS L, 0, 0)) := by show _ = _; rw [← hX, dc_end all _ _ _ (by omega)]
      obtain rfl : q = all.length := by omega
      clear hX
      go_wp2
      go_returns
      rw [HX2.out]
      exact ⟨_, rfl, ⟨L, DK.out.oz, rfl⟩, DK.out.bel⟩

end Go.Proofs.YtidlljeiholboaaDoor

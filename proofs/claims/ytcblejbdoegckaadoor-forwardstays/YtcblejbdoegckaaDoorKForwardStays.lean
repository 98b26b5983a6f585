/-
  ForwardStays, walked.
  KEEP: len below nil form rd mono one more grown lt size cell some none of ofNat add out step row get at mk new made look put del kept drew alloc has same other map perm td yes no pos all ne enter leave pm gone less keep box c u l f h r v ty own off cells nd txt tid bel oth sum done fwd setD hm fg keep2 start drop stays
-/
import Derived.Test.YtcblejbdoegckaaDoorJFwMp
import Derived.Test.YtcblejbdoegckaaDoorKApS
import Derived.Test.YtcblejbdoegckaaDoorKOpenZ
set_option linter.unusedSimpArgs false
set_option linter.unusedVariables false
namespace Go.Proofs.YtcblejbdoegckaaDoor
open Go Go.RowKit
/-- the loop's state: the checker, and the row of the additions -/
structure StI (w W4 : World) (b g : Nat) (css : List (List Int)) (l : List Stp) (k : Nat) (A : List (List Int)) (D : Bool) (u : Value) (L : List SV) (wr : World) : Prop where
  st : Fst W4.heap.size wr b g (css.length + k) A D
  bel : Below W4.heap.size W4 wr
  row : wr.ownsRow W4.heap.size 37 2 u L.length (svC L)
  rds : ∀ x ∈ L, Rd w x.2.1 x.2.2
  len : A.length ≤ css.length + k
  sum : lsum A ≤ lsum css + lsZ (l.take k)
  pur : StP ((css.map tid).reverse) A D l (svS L) k
section
variable {w W4 wr w' : World} {b g k : Nat} {css A A' : List (List Int)} {l : List Stp} {D D' : Bool} {u : Value} {L : List SV}
/-- a call of the checker -/
theorem StI.call (h : StI w W4 b g css l k A D u L wr) (hk : k < l.length) (hst : Fst W4.heap.size w' b g (css.length + k + 1) A' D') (hz : Bz W4.heap.size wr w') (hl : A'.length ≤ A.length + 1) (hs : lsum A' ≤ lsum A + (l.getD k (false, [])).2.length) :
    Fst W4.heap.size w' b g (css.length + (k + 1)) A' D' ∧ Below W4.heap.size W4 w' ∧ w'.ownsRow W4.heap.size 37 2 u L.length (svC L) ∧ A'.length ≤ css.length + (k + 1) ∧ lsum A' ≤ lsum css + lsZ (l.take (k + 1)) := by
  have h1 := lsZ_at l k hk
  have h2 := h.len
  have h3 := h.sum
  refine ⟨hst, h.bel.trans hz.bel, row_kept h.row fun q e => ?_, by omega, by omega⟩
  obtain ⟨c, f, hh⟩ := row_ty h.row e
  exact hz.fg q c _ f hh (by decide)
end
theorem row_form9 {B K s : Nat} {e : TypeId} {w : World} {x : Value} {xs : List Value} (h : w.ownsRow B e s x K xs) : ∃ a c, x = .slice a K c := by
  rcases h.2 with ⟨rfl, hn⟩ | ⟨g, cap, cur, rfl, _⟩
  · exact ⟨none, 0, by rw [hn]⟩
  · exact ⟨_, cap, rfl⟩
/-- an addition more in the row -/
theorem StI.app {w W4 w6 w7 : World} {b g N : Nat} {A : List (List Int)} {D : Bool} {u u' : Value} {L : List SV} {o : Obj} {xs : List Value} (hst : Fst W4.heap.size w6 b g N A D) (hb : Below W4.heap.size W4 w6) (hrow : w6.ownsRow W4.heap.size 37 2 u L.length (svC L)) (hg : (w6.alloc o).grownBy w7 u.ownBlock) :
    Fst W4.heap.size w7 b g N A D ∧ Below W4.heap.size W4 w7 := by
  have hb6 := below_box w6 o
  have hrow2 := World.ownsRow.alloc hrow o
  refine ⟨(hst.below hb6).grownF hg (fun k e => row_ty hrow2 e.symm) (by decide), ?_⟩
  exact (Below.step hb hb6).grown hg (Nat.le_trans hb.size hb6.size) fun k e => (World.ownsRow.lt hrow2 k e).1
theorem drop_len (A : List (List Int)) (c : List Int) : (dropF A false c).2.2.length ≤ A.length + 1 ∧ lsum (dropF A false c).2.2 ≤ lsum A + c.length := by
  have := endF_len A (true, c)
  unfold endF at this
  exact this
theorem add_len (A : List (List Int)) (c : List Int) : (addF A false c).2.2.1.length ≤ A.length + 1 ∧ lsum (addF A false c).2.2.1 ≤ lsum A + c.length := by
  have := endF_len A (false, c)
  unfold endF at this
  exact this
namespace forwardStays
set_option maxRecDepth 100000 in
set_option maxHeartbeats 3200000 in
theorem walk (n : Int) (s : Value) (css : List (List Int)) (vl : Value) (l : List Stp) (w : World) (_ : (Lit.int .i64 n).wf = true) (hr : Rds w s css) (hl : RdZ w vl l) (hb : css.length + (css.map List.length).sum ≤ 1048576) (hb1 : stpN l ≤ 1048576) (hD : Deb w) :
    Calls Tryd.prog 4 #[.agg #[.int .i64 n, s], vl] w fun e w' => e = .returned (.bool true) ∧ Below w.heap.size w w' := by
  have hls : lsum css = (css.map List.length).sum := rfl
  have hlz : lsZ l + l.length ≤ 1048576 := by unfold stpN at hb1; unfold lsZ; omega
  have hbx := below_box w (.cells #[.int .i64 n, s] 24)
  have hX := Bx2.new w 24 (.int .i64 n) s
  have HW : Hid (∀ W, Below w.heap.size w W → Rds W s css ∧ RdZ W vl l ∧ Deb W) := fun W h => ⟨hr.below h, hl.below h, hD.below h⟩
  have HBd : Hid (css.length + lsum css ≤ 1048576 ∧ lsZ l + l.length ≤ 1048576) := ⟨by omega, hlz⟩
  have HB1 : Hid (Below w.heap.size w (w.alloc (.cells #[.int .i64 n, s] 24)) ∧ Bx2 (w.alloc (.cells #[.int .i64 n, s] 24)) w.heap.size 24 (.int .i64 n) s) := ⟨hbx, hX⟩
  have HCk : Hid (∀ W, Below w.heap.size w W → Calls Tryd.prog 6 #[.agg #[.int .i64 n, s], vl] W fun e w' => e = ckV (chk n css l) ∧ Below W.heap.size W w') := fun W h => fCheck_any n s vl css l W (HW.out W h).1 (HW.out W h).2.1 (by omega) (by omega) (HW.out W h).2.2
  have HZ : Hid (RdZ w vl l) := hl
  obtain ⟨al, cl, rfl, hcl, hml, hcell⟩ := hl.form
  have HC : Hid (∀ k, k < l.length → ∃ b off u, al = some ⟨b, off, none⟩ ∧ b < w.heap.size ∧ w.cell? ⟨b, off + k * 2, none⟩ = some (.bool (l.getD k (false, [])).1) ∧ w.cell? ⟨b, off + k * 2 + 1, none⟩ = some u ∧ Rd w u (l.getD k (false, [])).2) := hcell
  have h8 := hl.len
  clear hr hl hb hb1 hD hls hlz hbx hX hcell
  go_enter Tryd.func4, Tryd.ntmps4
  go_upto_region 1 with fail
  generalize w.alloc (.cells #[.int .i64 n, s] 24) = W1 at *
  obtain ⟨X, hXe⟩ : ∃ X, w.heap.size = X := ⟨_, rfl⟩
  have HXe : Hid (w.heap.size = X) := hXe
  rw [hXe] at HB1 ⊢
  clear hXe
  have HAw : Hid (Calls Tryd.prog 5 #[] W1 fun e w' => e = .returned (.bool true) ∧ Below W1.heap.size W1 w') := awake11_any W1 (HW.out W1 (by rw [HXe.out]; exact HB1.out.1)).2.2
  go_upto_region 3 with (go_at_call 5; refine HAw.out.mono ?_; rintro e w1 ⟨rfl, hb1⟩; have H1 : Hid (Below X w w1 ∧ Bx2 w1 X 24 (.int .i64 n) s) := ⟨by have := HB1.out.1; rw [← HXe.out] at this ⊢; exact Below.step this hb1, HB1.out.2.below hb1⟩; clear hb1)
  have f0 := H1.out.2.c0
  have f1 := H1.out.2.c1
  have HCk1 : Hid (Calls Tryd.prog 6 #[.agg #[.int .i64 n, s], .slice al l.length cl] w1 fun e w' => e = ckV (chk n css l) ∧ Below X w w' ∧ Bx2 w' X 24 (.int .i64 n) s) := (HCk.out w1 (by rw [HXe.out]; exact H1.out.1)).mono fun e w' hh => ⟨hh.1, by have := H1.out.1; rw [← HXe.out] at this ⊢; exact Below.step this hh.2, H1.out.2.below hh.2⟩
  obtain ⟨code, at_, er, hq⟩ : ∃ code at_ er, chk n css l = (code, at_, er) := ⟨_, _, _, rfl⟩
  have HQ : Hid (chk n css l = (code, at_, er)) := hq
  rw [hq] at HCk1
  unfold ckV at HCk1
  dsimp only at HCk1
  clear hq HAw
  go_upto_region 4 with (go_at_call 6; refine HCk1.out.mono ?_; rintro e w2 ⟨rfl, hb2, hx2⟩; have H2 : Hid (Below X w w2 ∧ Bx2 w2 X 24 (.int .i64 n) s) := ⟨hb2, hx2⟩; clear hb2 hx2)
  have hb3 := below_box w2 (.cells #[.int .i64 code, .int .i64 at_] 28)
  have hx3 := Bx2.new w2 28 (.int .i64 code) (.int .i64 at_)
  have H3 : Hid (Below X w (w2.alloc (.cells #[.int .i64 code, .int .i64 at_] 28)) ∧ Bx2 (w2.alloc (.cells #[.int .i64 code, .int .i64 at_] 28)) X 24 (.int .i64 n) s) := ⟨by have := H2.out.1; rw [← HXe.out] at this ⊢; exact Below.step this hb3, H2.out.2.below hb3⟩
  have c0 := hx3.c0
  clear hb3 hx3 f0 f1 HCk1
  generalize w2.alloc (.cells #[.int .i64 code, .int .i64 at_] 28) = w3 at *
  generalize w2.heap.size = Y at *
  cases hf : frm n css
  case false =>
    have hq := HQ.out
    unfold chk at hq
    rw [hf] at hq
    have e1 : code = 0 := (congrArg Prod.fst hq).symm
    have e2 : er = 1 := (congrArg (fun q => q.2.2) hq).symm
    subst e1; subst e2
    clear hq
    go_wp2_with fail
    go_ret
    exact ⟨rfl, by rw [HXe.out]; exact H3.out.1⟩
  have hq := HQ.out
  unfold chk at hq
  rw [hf] at hq
  have e2 : er = 0 := (congrArg (fun q => q.2.2) hq).symm
  have e1 : chkF ((css.map tid).reverse) l 0 = (code, at_) := by
    have q1 := congrArg Prod.fst hq
    have q2 := congrArg (fun q => q.2.1) hq
    exact Prod.ext q1 q2
  subst e2
  have HF1 : Hid (chkF ((css.map tid).reverse) l 0 = (code, at_) ∧ frm n css = true) := ⟨e1, hf⟩
  clear hq e1
  by_cases hc1 : code = 1
  case neg =>
    have hcn : (code != 1) = true := bne_iff_ne.2 hc1
    go_wp2_with fail
    go_ret
    exact ⟨rfl, by rw [HXe.out]; exact H3.out.1⟩
  subst hc1
  have f0 := H3.out.2.c0
  have f1 := H3.out.2.c1
  have hNw := fNew_any n s css w3 (HW.out w3 (by rw [HXe.out]; exact H3.out.1)).1 (by have := HBd.out.1; omega)
  have HNw : Hid (Calls Tryd.prog 7 #[.agg #[.int .i64 n, s]] w3 fun e w' => ∃ b g, e = .returned (.tuple #[.pointer (some ⟨b, 0, none⟩), .int .i64 0]) ∧ StI w w3 b g css l 0 ((css.map tid).reverse) false (.slice none 0 0) [] w') := hNw.mono fun e w' hh => by
    rcases hh with ⟨h0, _⟩ | ⟨_, b, g, h1, h2, h3⟩
    · rw [HF1.out.2] at h0; cases h0
    · refine ⟨b, g, h1, h2, h3, World.ownsRow_nil _ _ _ _, fun x hx => (by cases hx), by simp, ?_, StP.start HF1.out.1⟩
      rw [lsum_rev]
      exact Nat.le_trans (lsum_tid css) (Nat.le_add_right _ _)
  clear hNw hf
  go_upto_region 9 with (go_at_call 7; refine HNw.out.mono ?_; rintro e w4 ⟨b, g, rfl, hs4⟩; have H4 : Hid (StI w w3 b g css l 0 ((css.map tid).reverse) false (.slice none 0 0) [] w4) := hs4; clear hs4)
  clear HNw f0 f1 c0
  go_wp2_with fail
  go_loopg [8, 9] l.length (fun q u iv wx => ∃ (k : Nat) (A : List (List Int)) (D : Bool) (L : List SV), k + q = l.length ∧ iv = .int .i64 (k : Int) ∧ Hid (StI w w3 b g css l k A D u L wx))
  case atStart => exact ⟨0, _, _, _, by omega, rfl, H4⟩
  case round =>
    obtain ⟨k, A, D, L, hk, rfl, HS⟩ := hrel
    have HK : Hid (k + gk = l.length) := hk
    obtain ⟨au, cu, rfl⟩ := row_form9 HS.out.row
    have HDn : Hid (Calls Tryd.prog 10 #[.pointer (some ⟨b, 0, none⟩)] wr fun e w' => e = .returned (.bool D) ∧ w' = wr) := fDone_any HS.out.st
    by_cases hlt : k < l.length
    · cases D with
      | true =>
        have hpu := HS.out.pur.2.2.2 rfl
        have hp1 := HS.out.pur.1
        have hp2 := HS.out.pur.2.1
        have hlzt := lsZ_take l k
        have hbw : Below w.heap.size w wr := by have := H3.out.1; rw [← HXe.out] at this; exact Below.step this HS.out.bel
        have hx := H3.out.2.below HS.out.bel
        have f0 := hx.c0
        have f1 := hx.c1
        have hLl : (svS L).length = L.length := svS_len L
        have hrz : RdZ wr (.slice au L.length cu) (svS L) := rdz_row HS.out.row (fun x hx => (HS.out.rds x hx).below hbw) (by have := HBd.out.2; omega)
        have hck := fCheck_any n s _ css (svS L) wr (HW.out wr hbw).1 hrz (by have := HBd.out; omega) (by have := HBd.out; omega) (HW.out wr hbw).2.2
        have hcv : chk n css (svS L) = (1, L.length - 1, 0) := by unfold chk; rw [if_pos HF1.out.2, hpu.2, hLl]
        rw [hcv] at hck
        have hpos : 0 < L.length := by
          rcases Nat.eq_zero_or_pos L.length with h0 | h0
          · exact absurd (List.eq_nil_of_length_eq_zero (by rw [hLl]; exact h0)) hpu.1
          · exact h0
        obtain ⟨m, hm⟩ : ∃ m, L.length = m + 1 := ⟨L.length - 1, by omega⟩
        have HL : Hid (L.length = m + 1) := hm
        have hm2 : m ≤ 1048576 := by have := HBd.out.2; omega
        rw [hm] at hck ⊢
        have HCk2 : Hid (Calls Tryd.prog 6 #[.agg #[.int .i64 n, s], .slice au (m + 1) cu] wr fun e w' => e = .returned (.tuple #[.agg #[.int .i64 1, .int .i64 (m : Int)], .int .i64 0]) ∧ Below w.heap.size w w') := hck.mono fun e w' hh => ⟨hh.1, Below.step hbw hh.2⟩
        have hwm : IntKind.i64.wrap ((m : Int) + 1 - 1) = (m : Int) := by rw [IntKind.wrap_i64]; omega
        have hwm2 : wrap64 ((m : Int) + 1 - 1) = (m : Int) := by unfold wrap64; omega
        have hmm : ((m : Int) == (m : Int)) = true := beq_self_eq_true _
        clear hpu hp1 hp2 hlzt hbw hx hLl hrz hck hcv hpos hm
        go_upto_region 20 with (first
          | (go_at_call 10; refine HDn.out.mono ?_; intro e w9 hh; rw [hh.1, hh.2]; clear hh e w9; dsimp only)
          | (go_at_call 6; refine HCk2.out.mono ?_; rintro e w5 ⟨rfl, hb5⟩; have H5 : Hid (Below w.heap.size w w5) := hb5; clear hb5))
        have hx5 := Bx2.new w5 28 (.int .i64 1) (.int .i64 (m : Int))
        have r0 := hx5.c0
        have r1 := hx5.c1
        have H6 : Hid (Below w.heap.size w (w5.alloc (.cells #[.int .i64 1, .int .i64 (m : Int)] 28))) := Below.step H5.out (below_box _ _)
        clear hx5
        generalize w5.alloc (.cells #[.int .i64 1, .int .i64 (m : Int)] 28) = w6 at *
        generalize w5.heap.size = Z at *
        go_wp2_with fail
        go_ret
        exact ⟨rfl, H6.out⟩
      | false =>
        have hbw : Below w.heap.size w wr := by have := H3.out.1; rw [← HXe.out] at this; exact Below.step this HS.out.bel
        have hb3 : Below w.heap.size w w3 := by have := H3.out.1; rw [← HXe.out] at this; exact this
        have hlb := HS.out.len
        have hsb := HS.out.sum
        have hlzt := lsZ_take l k
        have hBd := HBd.out
        obtain ⟨bb, off, uu, rfl, hbb, hd, hu, hru⟩ := HC.out k hlt
        obtain ⟨ac, cc, rfl, _⟩ := hru.form
        have kd := (hbw.cell (p := ⟨bb, off + k * 2, none⟩) hbb).trans hd
        have ku := (hbw.cell (p := ⟨bb, off + k * 2 + 1, none⟩) hbb).trans hu
        have HG : Hid (l.getD k (false, []) = l.getD k (false, [])) := rfl
        generalize hst0 : l.getD k (false, []) = st at *
        obtain ⟨d, c⟩ := st
        dsimp only at *
        cases d with
        | true =>
          have hdr := fDrop_all wr (.slice ac c.length cc) c HS.out.st (hru.below hbw) HS.out.bel.size (by omega) (by omega)
          have hdl := drop_len A c
          have HDr : Hid (Calls Tryd.prog 8 #[.pointer (some ⟨b, 0, none⟩), .slice ac c.length cc] wr fun e w' => (∃ n1 e1, e = .returned (.tuple #[.int .i64 n1, .int .i64 e1])) ∧ StI w w3 b g css l (k + 1) (dropF A false c).2.2 false (.slice au L.length cu) L w') := hdr.mono fun e w' hh => by
            obtain ⟨h1, h2, h3⟩ := hh
            have h4 := HS.out.call hlt h2 h3 hdl.1 (by rw [hst0]; exact hdl.2)
            exact ⟨⟨_, _, h1⟩, h4.1, h4.2.1, h4.2.2.1, HS.out.rds, h4.2.2.2.1, h4.2.2.2.2, HS.out.pur.drop hlt hst0⟩
          clear hbw hb3 hlb hsb hlzt hBd hbb hd hu hru hdr hdl HG
          go_wp2_with (first
            | (go_at_call 10; refine HDn.out.mono ?_; intro e w9 hh; rw [hh.1, hh.2]; clear hh e w9; dsimp only)
            | (go_at_call 8; refine HDr.out.mono ?_; rintro e w6 ⟨⟨n1, e1, rfl⟩, hs6⟩; have H6 : Hid (StI w w3 b g css l (k + 1) (dropF A false c).2.2 false (.slice au L.length cu) L w6) := hs6; clear hs6))
          go_roundg (gk - 1)
          case measure => have := HK.out; omega
          case rel => exact ⟨k + 1, _, _, _, by have := HK.out; omega, by go_num, H6⟩
        | false =>
          have had := fAdd_any w3 wr (.slice ac c.length cc) HS.out.st rfl HS.out.bel (hru.below hb3) (by omega) (by omega) (by omega) (HW.out w3 hb3).2.2
          have hdl := add_len A c
          have hpa := fun h0 h1 => HS.out.pur.add hlt hst0 (c := c) h0 h1
          obtain ⟨n1, e1, A', D', hq⟩ : ∃ n1 e1 A' D', addF A false c = (n1, e1, A', D') := ⟨_, _, _, _, rfl⟩
          rw [hq] at had hdl hpa
          dsimp only at hdl hpa
          have HAd : Hid (Calls Tryd.prog 9 #[.pointer (some ⟨b, 0, none⟩), .slice ac c.length cc] wr fun e w' => e = .returned (.tuple #[.int .i64 n1, .int .i64 e1]) ∧ Below w.heap.size w w' ∧ Fst w3.heap.size w' b g (css.length + (k + 1)) A' D' ∧ Below w3.heap.size w3 w' ∧ w'.ownsRow w3.heap.size 37 2 (.slice au L.length cu) L.length (svC L) ∧ A'.length ≤ css.length + (k + 1) ∧ lsum A' ≤ lsum css + lsZ (l.take (k + 1))) := had.mono fun e w' hh => by
            obtain ⟨h1, h2, h3⟩ := hh
            have h4 := HS.out.call hlt h2 h3 hdl.1 (by rw [hst0]; exact hdl.2)
            exact ⟨h1, Below.step hb3 h4.2.1, h4⟩
          have HP : Hid (e1 = 0 → n1 = 1 → StP ((css.map tid).reverse) A' D' l (svS L ++ [(false, c)]) (k + 1)) := hpa
          have HRu : Hid (Rd w (.slice ac c.length cc) c) := hru
          have HCel : Hid (∀ W, Below w.heap.size w W → W.cell? ⟨bb, off + k * 2, none⟩ = some (.bool false) ∧ W.cell? ⟨bb, off + k * 2 + 1, none⟩ = some (.slice ac c.length cc)) := fun W h => ⟨(h.cell (p := ⟨bb, off + k * 2, none⟩) hbb).trans hd, (h.cell (p := ⟨bb, off + k * 2 + 1, none⟩) hbb).trans hu⟩
          have hc8 := hru.len
          have hL1 : L.length ≤ 1048576 := by have := HS.out.pur.1; rw [svS_len] at this; omega
          clear hbw hlb hsb hlzt hBd hbb hd hu hru had hdl HG hpa hq
          by_cases he : e1 = 0
          · subst he
            by_cases hn : n1 = 1
            · subst hn
              obtain ⟨il, hil, hzl0, hzl1, hzl2⟩ := info_parts infoZ
              go_upto_region 18 with (first
                | (go_at_call 10; refine HDn.out.mono ?_; intro e w9 hh; rw [hh.1, hh.2]; clear hh e w9; dsimp only)
                | (go_at_call 9; refine HAd.out.mono ?_; rintro e w6 ⟨rfl, hb6, hh⟩; have kd6 := (HCel.out w6 hb6).1; have ku6 := (HCel.out w6 hb6).2; have H6 : Hid (Fst w3.heap.size w6 b g (css.length + (k + 1)) A' D' ∧ Below w3.heap.size w3 w6 ∧ w6.ownsRow w3.heap.size 37 2 (.slice au L.length cu) L.length (svC L) ∧ A'.length ≤ css.length + (k + 1) ∧ lsum A' ≤ lsum css + lsZ (l.take (k + 1))) := hh; clear hb6 hh))
              go_wp2_with (at_builtin; refine wpList_append_own _ rfl _ _ 25 rfl w3.heap.size 37 il (.agg #[.bool false, .slice none 0 0]) 2 32 Tryd.underlying25 hil hzl0 hzl1 hzl2 rfl (by decide) _ L.length (svC L) rfl (World.ownsRow.alloc H6.out.2.2.1 _) _ 1 1 [.bool false, .slice ac c.length cc] rfl rfl (cell_two_new9 _ _ _ _) (by simp [Value.oneCell']) (by unfold maxLen; omega) (by omega) (by have := H6.out.2.1.size; simp; omega) ?_; intro v7 w7 own7 gr7 hn7)
              have h7 := StI.app (u' := v7) (xs := []) (w := w) H6.out.1 H6.out.2.1 H6.out.2.2.1 gr7
              have H7 : Hid (StI w w3 b g css l (k + 1) A' D' v7 (L ++ [(false, .slice ac c.length cc, c)]) w7) := by
                refine ⟨h7.1, h7.2, ?_, fun x hx => ?_, H6.out.2.2.2.1, H6.out.2.2.2.2, ?_⟩
                · rw [svC_snoc, List.length_append]; exact own7
                · rcases List.mem_append.1 hx with q | q
                  · exact HS.out.rds x q
                  · obtain rfl : x = (false, .slice ac c.length cc, c) := by simpa using q
                    exact HRu.out
                · rw [svS_snoc]; first | exact HP.out rfl rfl | exact HP.out trivial trivial | exact HP.out trivial rfl | exact HP.out rfl trivial
              clear h7 own7 gr7 hn7
              go_wp2_with fail
              go_roundg (gk - 1)
              case measure => have := HK.out; omega
              case rel => exact ⟨k + 1, _, _, _, by have := HK.out; omega, by go_num, H7⟩
            · have hn1 : (n1 != 1) = true := bne_iff_ne.2 hn
              go_wp2_with (first
                | (go_at_call 10; refine HDn.out.mono ?_; intro e w9 hh; rw [hh.1, hh.2]; clear hh e w9; dsimp only)
                | (go_at_call 9; refine HAd.out.mono ?_; rintro e w6 ⟨rfl, hb6, hh⟩; have H6 : Hid (Below w.heap.size w w6) := hb6; clear hb6 hh))
              go_ret
              exact ⟨rfl, H6.out⟩
          · have he1 : (e1 != 0) = true := bne_iff_ne.2 he
            go_wp2_with (first
              | (go_at_call 10; refine HDn.out.mono ?_; intro e w9 hh; rw [hh.1, hh.2]; clear hh e w9; dsimp only)
              | (go_at_call 9; refine HAd.out.mono ?_; rintro e w6 ⟨rfl, hb6, hh⟩; have H6 : Hid (Below w.heap.size w w6) := hb6; clear hb6 hh))
            go_ret
            exact ⟨rfl, H6.out⟩
    · cases D with
      | true =>
        have hpu := HS.out.pur.2.2.2 rfl
        have hp1 := HS.out.pur.1
        have hp2 := HS.out.pur.2.1
        have hlzt := lsZ_take l k
        have hbw : Below w.heap.size w wr := by have := H3.out.1; rw [← HXe.out] at this; exact Below.step this HS.out.bel
        have hx := H3.out.2.below HS.out.bel
        have f0 := hx.c0
        have f1 := hx.c1
        have hLl : (svS L).length = L.length := svS_len L
        have hrz : RdZ wr (.slice au L.length cu) (svS L) := rdz_row HS.out.row (fun x hx => (HS.out.rds x hx).below hbw) (by have := HBd.out.2; omega)
        have hck := fCheck_any n s _ css (svS L) wr (HW.out wr hbw).1 hrz (by have := HBd.out; omega) (by have := HBd.out; omega) (HW.out wr hbw).2.2
        have hcv : chk n css (svS L) = (1, L.length - 1, 0) := by unfold chk; rw [if_pos HF1.out.2, hpu.2, hLl]
        rw [hcv] at hck
        have hpos : 0 < L.length := by
          rcases Nat.eq_zero_or_pos L.length with h0 | h0
          · exact absurd (List.eq_nil_of_length_eq_zero (by rw [hLl]; exact h0)) hpu.1
          · exact h0
        obtain ⟨m, hm⟩ : ∃ m, L.length = m + 1 := ⟨L.length - 1, by omega⟩
        have HL : Hid (L.length = m + 1) := hm
        have hm2 : m ≤ 1048576 := by have := HBd.out.2; omega
        rw [hm] at hck ⊢
        have HCk2 : Hid (Calls Tryd.prog 6 #[.agg #[.int .i64 n, s], .slice au (m + 1) cu] wr fun e w' => e = .returned (.tuple #[.agg #[.int .i64 1, .int .i64 (m : Int)], .int .i64 0]) ∧ Below w.heap.size w w') := hck.mono fun e w' hh => ⟨hh.1, Below.step hbw hh.2⟩
        have hwm : IntKind.i64.wrap ((m : Int) + 1 - 1) = (m : Int) := by rw [IntKind.wrap_i64]; omega
        have hwm2 : wrap64 ((m : Int) + 1 - 1) = (m : Int) := by unfold wrap64; omega
        have hmm : ((m : Int) == (m : Int)) = true := beq_self_eq_true _
        clear hpu hp1 hp2 hlzt hbw hx hLl hrz hck hcv hpos hm
        go_upto_region 20 with (first
          | (go_at_call 10; refine HDn.out.mono ?_; intro e w9 hh; rw [hh.1, hh.2]; clear hh e w9; dsimp only)
          | (go_at_call 6; refine HCk2.out.mono ?_; rintro e w5 ⟨rfl, hb5⟩; have H5 : Hid (Below w.heap.size w w5) := hb5; clear hb5))
        have hx5 := Bx2.new w5 28 (.int .i64 1) (.int .i64 (m : Int))
        have r0 := hx5.c0
        have r1 := hx5.c1
        have H6 : Hid (Below w.heap.size w (w5.alloc (.cells #[.int .i64 1, .int .i64 (m : Int)] 28))) := Below.step H5.out (below_box _ _)
        clear hx5
        generalize w5.alloc (.cells #[.int .i64 1, .int .i64 (m : Int)] 28) = w6 at *
        generalize w5.heap.size = Z at *
        go_wp2_with fail
        go_ret
        exact ⟨rfl, H6.out⟩
      | false =>
        exfalso
        obtain ⟨⟨K, hK⟩, _⟩ := HS.out.pur.2.2.1 rfl
        rw [List.drop_eq_nil_of_le (by omega)] at hK
        have h4 : (4 : Int) = 1 := congrArg Prod.fst hK
        exact absurd h4 (by decide)
end forwardStays
end Go.Proofs.YtcblejbdoegckaaDoor

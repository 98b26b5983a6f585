/-
  learn: Levels, on both sides.
  KEEP: len below nil form rd mono one more grown lt size cell some none of ofNat add out step row get at mk new made look put del kept drew alloc has same other map rde take lit lev lstB pre ws cells bnd on start app set box bel rz tidy
-/
import Derived.Test.YtkchabdlpeifjaaLnF
set_option linter.unusedSimpArgs false
set_option linter.unusedVariables false
namespace Go.Proofs.Ytkchabdlpeifjaa
open Go Go.RowKit
theorem dis_snoc (l : List Int) (x : Int) : dis (l ++ [x]) = addL (dis l) x := by simp [dis, List.foldl_append]
theorem addL_len (l : List Int) (x : Int) : (addL l x).length = if l.contains x then l.length else l.length + 1 := by unfold addL; split <;> simp
theorem addL_in (l : List Int) (x y : Int) : (addL l x).contains y = (y == x || l.contains y) := by
  unfold addL
  split
  · rename_i h
    by_cases e : y = x
    · subst e; rw [h]; simp
    · rw [beq_eq_false_iff_ne.2 e]; rfl
  · rw [Bool.eq_iff_iff]; simp [List.contains_iff_mem, or_comm]
theorem dis_le (l : List Int) : (dis l).length ≤ l.length := by
  have key : ∀ (l acc : List Int), (l.foldl addL acc).length ≤ acc.length + l.length := by
    intro l
    induction l with
    | nil => intro acc; simp
    | cons x r ih =>
      intro acc
      have := ih (addL acc x)
      have h2 := addL_len acc x
      rw [List.foldl_cons]
      split at h2 <;> simp <;> omega
  have := key l []
  simpa [dis] using this
theorem map_more (f : Int → Int) (zs : List Int) (k : Nat) (h : k < zs.length) : (zs.take (k + 1)).map f = (zs.take k).map f ++ [f (zs.getD k 0)] := by
  rw [take_succ_getD zs 0 k h]; simp
/-- the state of Levels' loop -/
structure LvL (wb wr : World) (t : List Ent) (zs : List Int) (k : Nat) : Prop where
  ms : Ms wr wb.heap.size k (dis ((zs.take k).map (lvl t))).length (fun y => (dis ((zs.take k).map (lvl t))).contains y)
  bel : Below wb.heap.size wb wr
theorem LvL.start (wb : World) (t : List Ent) (zs : List Int) : LvL wb (wb.alloc (.map #[] 0)) t zs 0 := ⟨Ms.made wb, below_box _ _⟩
theorem LvL.drewN {wb wr : World} {t : List Ent} {zs : List Int} {k : Nat} (h : LvL wb wr t zs k) (n : Nat) : LvL wb (wr.drewN n) t zs k := ⟨h.ms.below (below_drewN _ n), h.bel.trans ((below_drewN wr n).mono h.bel.size)⟩
theorem LvL.more {wb wr : World} {t : List Ent} {zs : List Int} {k : Nat} (h : LvL wb wr t zs k) (hk : k < zs.length) (hb : k < maxLen) (h1 : -9223372036854775808 ≤ lvl t (zs.getD k 0)) (h2 : lvl t (zs.getD k 0) ≤ 9223372036854775807) :
    ∃ w', (Instr.mapUpdate 56 (.map (some wb.heap.size)) (.int .i64 (lvl t (zs.getD k 0))) (.agg #[])).run Try.prog wr = .ok () w' ∧ LvL wb w' t zs (k + 1) := by
  obtain ⟨w', r1, r2, r3⟩ := h.ms.put Try.underlying56 h1 h2 hb
  refine ⟨w', r1, ⟨?_, h.bel.grown r3 h.bel.size (fun j hj => by cases hj; exact Nat.le_refl _)⟩⟩
  have e1 := map_more (lvl t) zs k hk
  have e2 : dis ((zs.take (k + 1)).map (lvl t)) = addL (dis ((zs.take k).map (lvl t))) (lvl t (zs.getD k 0)) := by rw [e1, dis_snoc]
  rw [e2, addL_len]
  have e3 : (fun y => (addL (dis ((zs.take k).map (lvl t))) (lvl t (zs.getD k 0))).contains y) = inS (fun y => (dis ((zs.take k).map (lvl t))).contains y) (lvl t (zs.getD k 0)) := by
    funext y; rw [addL_in]; rfl
  rw [e3]
  exact r2
theorem Ws.lvl_range {t : List Ent} (h : Ws t) (x : Int) : 0 ≤ lvl t x ∧ lvl t x ≤ 1048576 := by
  unfold lvl
  cases e : vpl t (varOf x) with
  | none => exact ⟨Int.le_refl _, by show (0 : Int) ≤ 1048576; omega⟩
  | some i =>
    have h1 := (vpl_some e).1
    have h2 := h.lev i h1
    have := h.len
    exact ⟨h2.1, by show (t.getD i e0).2.1 ≤ _; omega⟩
set_option maxHeartbeats 3200000 in
theorem levels_any (v vc : Value) (t : List Ent) (zs : List Int) (w : World) (hr : RdE w v t) (hz : Rd w vc zs) :
    Calls Try.prog 19 #[v, vc] w fun e w' => e = .returned (.tuple #[.int .i64 (lvsI t zs).1, .int .i64 (lvsI t zs).2]) ∧ Below w.heap.size w w' := by
  have hl := hz.len
  have HRd : Hid (Calls Try.prog 25 #[v] w fun e w' => ∃ xa xn xc ym, e = .returned (.tuple #[.agg #[.slice xa xn xc, .map ym], .bool (frmE t)]) ∧ Below w.heap.size w w' ∧ (frmE t = true → ∃ g, v = .slice xa t.length xc ∧ xn = t.length ∧ ym = some g ∧ Rz w' xa t xc g t ∧ w.heap.size ≤ g)) := read_any v t w hr
  have HSo : Hid (∀ W, Below w.heap.size w W → Calls Try.prog 45 #[vc] W fun e w' => e = .returned (.bool (zs.all fmd)) ∧ w' = W) := fun W h => sound_any vc zs W (hz.below h)
  obtain ⟨LI, hLI⟩ : ∃ LI, lvsI t zs = LI := ⟨_, rfl⟩
  have HLI : Hid ((if frmE t && zs.all fmd then (if hasB t zs then (((dis (zs.map (lvl t))).length : Int), 0) else ((0 : Int), (2 : Int))) else ((0 : Int), (1 : Int))) = LI) := by rw [← hLI]; rfl
  rw [hLI]
  have HZ : Hid (Rd w vc zs) := hz
  clear hr hz hLI
  cases h1 : frmE t
  · have HE : Hid (LI = (0, 1)) := by show LI = _; rw [← HLI.out, h1]; rfl
    rw [h1] at HRd
    clear h1 HLI
    go_enter Try.func19, Try.ntmps19
    go_wp2_with (first | (go_at_call 25; refine HRd.out.mono ?_; rintro e w1 ⟨xa, xn, xc, ym, rfl, bE, _⟩; have HB : Hid (Below w.heap.size w w1) := bE; clear bE))
    go_ret2
    exact ⟨by rw [HE.out]; rfl, Below.step HB.out (below_box _ _)⟩
  cases h2 : zs.all fmd
  · have HE : Hid (LI = (0, 1)) := by show LI = _; rw [← HLI.out, h1, h2]; rfl
    rw [h1] at HRd
    rw [h2] at HSo
    clear h1 h2 HLI
    go_enter Try.func19, Try.ntmps19
    go_wp2_with (first | (go_at_call 25; refine HRd.out.mono ?_; rintro e w1 ⟨xa, xn, xc, ym, rfl, bE, _⟩; have HB : Hid (Below w.heap.size w w1) := bE; clear bE) | (go_at_call 45; refine (HSo.out _ (Below.step HB.out (below_box _ _))).mono ?_; rintro e w2 ⟨rfl, hw⟩; obtain rfl := hw.symm))
    go_ret2
    exact ⟨by rw [HE.out]; rfl, Below.step HB.out (below_box _ _)⟩
  have HWs : Hid (Ws t) := (frmE_iff t).1 h1
  have HLI2 : Hid ((if hasB t zs then (((dis (zs.map (lvl t))).length : Int), 0) else ((0 : Int), (2 : Int))) = LI) := by have := HLI.out; rw [h1, h2] at this; exact this
  have HFm : Hid (zs.all fmd = true) := h2
  rw [h1] at HRd
  rw [h2] at HSo
  clear h1 h2 HLI
  go_enter Try.func19, Try.ntmps19
  go_upto_region 4 with (first | (go_at_call 25; refine HRd.out.mono ?_; rintro e w1 ⟨xa, xn, xc, ym, rfl, bE, hrz⟩; obtain ⟨g, hv, rfl, rfl, hrz, _⟩ := hrz rfl; have HB : Hid (Below w.heap.size w w1 ∧ Rz w1 xa t xc g t) := ⟨bE, hrz⟩; subst hv; clear bE hrz) | (go_at_call 45; refine (HSo.out _ (Below.step HB.out.1 (below_box _ _))).mono ?_; rintro e w2 ⟨rfl, hw⟩; obtain rfl := hw.symm))
  obtain ⟨ua, uc, rfl, huc, hum, _⟩ := HZ.out.form
  have hb1 := HB.out.2.bnd
  have HWb : Hid (∀ W, Below (w1.alloc (.cells #[.slice xa t.length xc, .map (some g)] 45)).heap.size (w1.alloc (.cells #[.slice xa t.length xc, .map (some g)] 45)) W → Below w.heap.size w W ∧ Rz W xa t xc g t ∧ W.cell? ⟨w1.heap.size, 0, none⟩ = some (.slice xa t.length xc) ∧ W.cell? ⟨w1.heap.size, 1, none⟩ = some (.map (some g)) ∧ Rd W (.slice ua zs.length uc) zs) := fun W hW => by
    have h1 : Below w1.heap.size w1 W := Below.step (below_box _ _) hW
    have h0 : Below w.heap.size w W := Below.step HB.out.1 h1
    exact ⟨h0, HB.out.2.below h1, box_at hW rfl, box_at hW rfl, HZ.out.below h0⟩
  clear HB HSo HRd
  generalize w1.alloc (.cells #[.slice xa t.length xc, .map (some g)] 45) = wb at *
  obtain ⟨Y, hY⟩ : ∃ Y, w1.heap.size = Y := ⟨_, rfl⟩
  rw [hY] at HWb ⊢
  clear hY
  obtain ⟨G, hG⟩ : ∃ G, wb.heap.size = G := ⟨_, rfl⟩
  have HS := LvL.start wb t zs
  have hmake : (Instr.makeMap 56 none).run Try.prog wb = .ok (.map (some G)) (wb.alloc (.map #[] 0)) := by rw [← hG]; rfl
  go_wp2_with fail
  clear hmake
  go_loopg [28] zs.length (fun g' j wr => ∃ k : Nat, k + g' = zs.length ∧ j = .int .i64 k ∧ hasB t (zs.take k) = true ∧ Hid (LvL wb wr t zs k))
  case atStart => exact ⟨0, by omega, rfl, rfl, HS⟩
  case round =>
    obtain ⟨k, hk, rfl, hall, HL⟩ := hrel
    have HA : Hid (hasB t (zs.take k) = true) := hall
    have HK : Hid (k + gk = zs.length) := hk
    obtain ⟨_, hrz, f0, f1, hrd⟩ := HWb.out wr HL.out.bel
    clear hall HS
    by_cases hlt : k < zs.length
    · obtain ⟨ua', uc', e', _, _, hcell⟩ := hrd.form
      injection e' with q1 q2 q3
      subst q1 q3
      obtain ⟨b2, off2, rfl, hck⟩ := hcell k hlt
      have HM := all_more (fun x => (vpl t (varOf x)).isSome) zs k hlt
      have HN : Hid ((vpl t (varOf (zs.getD k 0))).isSome = false → hasB t zs = false) := fun h => all_no hlt h
      have HM2 : Hid ((vpl t (varOf (zs.getD k 0))).isSome = true → hasB t (zs.take (k + 1)) = true) := fun h => by
        show (zs.take (k + 1)).all _ = true
        rw [HM]; exact Bool.and_eq_true_iff.2 ⟨HA.out, h⟩
      have hv := varOf_le (zs.getD k 0)
      obtain ⟨vv, hve⟩ : ∃ vv, varOf (zs.getD k 0) = vv := ⟨_, rfl⟩
      have HV : Hid (∀ W : World, Calls Try.prog 46 #[.int .i64 (zs.getD k 0)] W fun e w' => e = .returned (.int .i64 vv) ∧ w' = W) := fun W => by rw [← hve]; exact var_any _ _
      have hlk : ∀ n, (Instr.lookup 43 (.map (some g)) (.int .i64 vv) true).run Try.prog (wr.drewN n) = .ok (.tuple #[.int .i64 (((vpl t vv).getD 0 : Nat) : Int), .bool (vpl t vv).isSome]) (wr.drewN n) := fun n => (hrz.drewN n).map.look (by omega) (by omega)
      have HLv : Hid (lvl t (zs.getD k 0) = match vpl t vv with | some i => (t.getD i e0).2.1 | none => 0) := by show _ = _; unfold lvl; rw [hve]; rfl
      have hlr := HWs.out.lvl_range (zs.getD k 0)
      have hmx : k < maxLen := by unfold maxLen; omega
      have HMo : Hid (∀ n, ∃ w', (Instr.mapUpdate 56 (.map (some G)) (.int .i64 (lvl t (zs.getD k 0))) (.agg #[])).run Try.prog (wr.drewN n) = .ok () w' ∧ LvL wb w' t zs (k + 1)) := fun n => by rw [← hG]; exact (HL.out.drewN n).more hlt hmx (by omega) (by omega)
      rw [hve] at HN HM2
      have HBl : Hid (∀ W, Below wr.heap.size wr W → Below w.heap.size w W) := fun W hW => (HWb.out W (HL.out.bel.trans (hW.mono HL.out.bel.size))).1
      have HE2 : Hid (hasB t zs = false → LI = (0, 2)) := fun h => by rw [← HLI2.out, h]; rfl
      clear hk HM hcell hrd hve hv hlr
      generalize zs.getD k 0 = y at *
      cases hvp : vpl t vv with
      | none =>
        have HT : Hid (LI = (0, 2)) := HE2.out (HN.out (by rw [hvp]; rfl))
        rw [hvp] at hlk
        dsimp only [Option.getD, Option.isSome] at hlk
        clear HN HM2 HMo HLv hrz hvp
        go_upto_region 8 with fail
        go_quiet ((go_at_call 46; exact Calls.quiet_of_same (HV.out _)))
        go_wp2_with fail
        go_ret2
        exact ⟨by rw [HT.out]; rfl, HBl.out _ (below_drewN _ _)⟩
      | some i =>
        have HT : Hid (hasB t (zs.take (k + 1)) = true) := HM2.out (by rw [hvp]; rfl)
        obtain ⟨hi, _⟩ := hrz.at hvp
        obtain ⟨b, off, u, rfl, hbl, c0, c1, c2, _⟩ := hrz.cells hi
        rw [hvp] at hlk
        dsimp only [Option.getD, Option.isSome] at hlk
        have hLv : lvl t y = (t.getD i e0).2.1 := by have := HLv.out; rw [hvp] at this; exact this
        rw [hLv] at HMo
        clear HN HM2 HLv hrz hvp c0 c2 hLv
        generalize (t.getD i e0).2.1 = lv at *
        go_upto_region 8 with fail
        go_quiet ((go_at_call 46; exact Calls.quiet_of_same (HV.out _)))
        obtain ⟨w5, hrun5, h5⟩ := HMo.out nq
        have H5 : Hid (LvL wb w5 t zs (k + 1)) := h5
        clear h5
        go_wp2_with fail
        go_roundg (gk - 1)
        case measure => have := HK.out; omega
        case rel => exact ⟨k + 1, by have := HK.out; omega, by go_num, HT.out, H5.out⟩
    · obtain rfl : k = zs.length := by omega
      have HE : Hid (LI = (((dis (zs.map (lvl t))).length : Int), 0)) := by
        have h1 := HA.out
        rw [List.take_length] at h1
        show LI = _
        rw [← HLI2.out, h1]; rfl
      have hlen := HL.out.ms.len Try.underlying56 3
      rw [List.take_length, hG] at hlen
      clear hk hrz hrd
      go_wp2_with fail
      go_ret2
      exact ⟨by rw [HE.out]; rfl, (HWb.out wr HL.out.bel).1⟩
end Go.Proofs.Ytkchabdlpeifjaa

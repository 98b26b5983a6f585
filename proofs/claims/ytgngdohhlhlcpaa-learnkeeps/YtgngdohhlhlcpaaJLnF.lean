/-
  joined: LnF LnG LnI LnJ LnH
-/
import Derived.Test.YtgngdohhlhlcpaaLnE
import Derived.Test.YtgngdohhlhlcpaaLnRc
set_option linter.unusedSimpArgs false
set_option linter.unusedVariables false
namespace Go.Proofs.Ytgngdohhlhlcpaa
open Go Go.RowKit
/-- the set holds what T says; of at most n numbers, s of them -/
def Ms (W : World) (g n s : Nat) (T : Int → Bool) : Prop :=
  ∃ D : DataW Unit, W.ownsMap Try.prog 3 unitElem g n D ∧ Maps.Tidy D ∧ Maps.size D = s ∧ ∀ x, Maps.has D (.int .i64 x) = T x
section
variable {W W' : World} {g n s : Nat} {T : Int → Bool}
theorem Ms.made (w : World) : Ms (w.alloc (.map #[] 0)) w.heap.size 0 0 (fun _ => false) := ⟨_, World.ownsMap_made w _ _ _, Maps.tidy_empty, rfl, fun x => rfl⟩
theorem Ms.lt (h : Ms W g n s T) : g < W.heap.size := by obtain ⟨D, h1, _⟩ := h; exact h1.lt
theorem Ms.kept (h : Ms W g n s T) (hk : W'.heap[g]? = W.heap[g]?) : Ms W' g n s T := by
  obtain ⟨D, ⟨es, clock, hb, r⟩, h2⟩ := h
  exact ⟨D, ⟨es, clock, hk.trans hb, r⟩, h2⟩
theorem Ms.below (h : Ms W g n s T) (hb : Below W.heap.size W W') : Ms W' g n s T := h.kept (hb.block g h.lt)
def inS (T : Int → Bool) (x : Int) : Int → Bool := fun y => y == x || T y
def outS (T : Int → Bool) (x : Int) : Int → Bool := fun y => y != x && T y
theorem zeroU (W : World) : (zeroValue 68).run Try.prog W = .ok (.agg #[]) W := by kernel_rfl
theorem Ms.look (h : Ms W g n s T) {t : TypeId} (ht : Try.prog.underlying t = some (.map 3 68)) {x : Int} (h1 : -9223372036854775808 ≤ x) (h2 : x ≤ 9223372036854775807) : (Instr.lookup t (.map (some g)) (.int .i64 x) true).run Try.prog W = .ok (.tuple #[.agg #[], .bool (T x)]) W := by
  obtain ⟨D, h1', _, _, h2'⟩ := h
  obtain ⟨v, ps, hrun, hv⟩ := h1'.look_ok lawI ht (zeroU W) unitElem_mk (keyI h1 h2)
  obtain ⟨rfl, _⟩ := unitElem_inv hv
  rw [hrun, h2' x]
theorem Ms.put (h : Ms W g n s T) {t : TypeId} (ht : Try.prog.underlying t = some (.map 3 68)) {x : Int} (h1 : -9223372036854775808 ≤ x) (h2 : x ≤ 9223372036854775807) (hn : n < maxLen) : ∃ w', (Instr.mapUpdate t (.map (some g)) (.int .i64 x) (.agg #[])).run Try.prog W = .ok () w' ∧ Ms w' g (n + 1) (if T x then s else s + 1) (inS T x) ∧ W.grownBy w' (some g) := by
  obtain ⟨D, h1', ht', hs', h2'⟩ := h
  have hm := h1'.isMap
  obtain ⟨w', r1, r2, r3⟩ := h1'.update lawI ht hn (keyI h1 h2) unitElem_mk
  refine ⟨w', r1, ⟨_, r2, ht'.put (show WideAt.IsKeyLit (.int .i64 x) from trivial) _, by rw [Maps.size_put ht', h2' x, hs'], fun y => ?_⟩, r3⟩
  unfold inS
  by_cases e : y = x
  · subst e
    rw [Maps.has_put_same hm (show WideAt.IsKeyLit (.int .i64 y) from trivial)]; simp
  · have ne : (Lit.int .i64 y) ≠ .int .i64 x := fun q => e (by injection q)
    rw [Maps.has_put_other ne, h2' y, beq_eq_false_iff_ne.2 e]; rfl
theorem Ms.del (h : Ms W g n s T) {t : TypeId} (ht : Try.prog.underlying t = some (.map 3 68)) {x : Int} (h1 : -9223372036854775808 ≤ x) (h2 : x ≤ 9223372036854775807) (ty : TypeId) : ∃ w', (Builtin.delete_ #[t, 3] ty #[.map (some g), .int .i64 x]).run Try.prog W = .ok (.tuple #[]) w' ∧ Ms w' g n (if T x then s - 1 else s) (outS T x) ∧ W.grownBy w' (some g) := by
  obtain ⟨D, h1', ht', hs', h2'⟩ := h
  obtain ⟨w', r1, r2, r3⟩ := h1'.drop lawI ht (keyI h1 h2) ty
  refine ⟨w', r1, ⟨_, r2, ht'.del _, ?_, fun y => ?_⟩, r3.grown⟩
  · have := Maps.size_del (k := .int .i64 x) ht'
    rw [h2' x, hs'] at this
    split at this <;> simp_all <;> omega
  unfold outS
  by_cases e : y = x
  · subst e
    rw [Maps.has_del_same]; simp
  · have ne : (Lit.int .i64 y) ≠ .int .i64 x := fun q => e (by injection q)
    rw [Maps.has_del_other ne, h2' y, show (y != x) = true by simpa using e]; rfl
theorem Ms.len (h : Ms W g n s T) {t : TypeId} (ht : Try.prog.underlying t = some (.map 3 68)) (ty : TypeId) : (Builtin.len_ #[t] ty #[.map (some g)]).run Try.prog W = .ok (.int .i64 (s : Int)) W := by
  obtain ⟨D, h1', ht', hs', h2'⟩ := h
  rw [h1'.len ht ty, hs']
end
end Go.Proofs.Ytgngdohhlhlcpaa
set_option linter.unusedSimpArgs false
set_option linter.unusedVariables false
namespace Go.Proofs.Ytgngdohhlhlcpaa
open Go Go.RowKit
theorem dis_snoc (l : List Int) (x : Int) : dis (l ++ [x]) = addL (dis l) x := by simp [dis, List.foldl_append]
theorem addL_len (l : List Int) (x : Int) : (addL l x).length = if l.contains x then l.length else l.length + 1 := by unfold addL; split <;> simp
theorem addL_in (l : List Int) (x y : Int) : (addL l x).contains y = (y == x || l.contains y) := by
  unfold addL
  split
  · rename_i h
    by_cases e : y = x
    · subst e; rw [h]; simp
    · rw [beq_eq_false_iff_ne.2 e]; rfl
  · rw [Bool.eq_iff_iff]; simp [List.contains_iff_mem, or_comm]
theorem dis_le (l : List Int) : (dis l).length ≤ l.length := by
  have key : ∀ (l acc : List Int), (l.foldl addL acc).length ≤ acc.length + l.length := by
    intro l
    induction l with
    | nil => intro acc; simp
    | cons x r ih =>
      intro acc
      have := ih (addL acc x)
      have h2 := addL_len acc x
      rw [List.foldl_cons]
      split at h2 <;> simp <;> omega
  have := key l []
  simpa [dis] using this
theorem map_more (f : Int → Int) (zs : List Int) (k : Nat) (h : k < zs.length) : (zs.take (k + 1)).map f = (zs.take k).map f ++ [f (zs.getD k 0)] := by
  rw [take_succ_getD zs 0 k h]; simp
/-- the state of Levels' loop -/
structure LvL (wb wr : World) (t : List Ent) (zs : List Int) (k : Nat) : Prop where
  ms : Ms wr wb.heap.size k (dis ((zs.take k).map (lvl t))).length (fun y => (dis ((zs.take k).map (lvl t))).contains y)
  bel : Below wb.heap.size wb wr
theorem LvL.start (wb : World) (t : List Ent) (zs : List Int) : LvL wb (wb.alloc (.map #[] 0)) t zs 0 := ⟨Ms.made wb, below_box _ _⟩
theorem LvL.drewN {wb wr : World} {t : List Ent} {zs : List Int} {k : Nat} (h : LvL wb wr t zs k) (n : Nat) : LvL wb (wr.drewN n) t zs k := ⟨h.ms.below (below_drewN _ n), h.bel.trans ((below_drewN wr n).mono h.bel.size)⟩
theorem LvL.more {wb wr : World} {t : List Ent} {zs : List Int} {k : Nat} (h : LvL wb wr t zs k) (hk : k < zs.length) (hb : k < maxLen) (h1 : -9223372036854775808 ≤ lvl t (zs.getD k 0)) (h2 : lvl t (zs.getD k 0) ≤ 9223372036854775807) :
    ∃ w', (Instr.mapUpdate 57 (.map (some wb.heap.size)) (.int .i64 (lvl t (zs.getD k 0))) (.agg #[])).run Try.prog wr = .ok () w' ∧ LvL wb w' t zs (k + 1) := by
  obtain ⟨w', r1, r2, r3⟩ := h.ms.put Try.underlying57 h1 h2 hb
  refine ⟨w', r1, ⟨?_, h.bel.grown r3 h.bel.size (fun j hj => by cases hj; exact Nat.le_refl _)⟩⟩
  have e1 := map_more (lvl t) zs k hk
  have e2 : dis ((zs.take (k + 1)).map (lvl t)) = addL (dis ((zs.take k).map (lvl t))) (lvl t (zs.getD k 0)) := by rw [e1, dis_snoc]
  rw [e2, addL_len]
  have e3 : (fun y => (addL (dis ((zs.take k).map (lvl t))) (lvl t (zs.getD k 0))).contains y) = inS (fun y => (dis ((zs.take k).map (lvl t))).contains y) (lvl t (zs.getD k 0)) := by
    funext y; rw [addL_in]; rfl
  rw [e3]
  exact r2
theorem Ws.lvl_range {t : List Ent} (h : Ws t) (x : Int) : 0 ≤ lvl t x ∧ lvl t x ≤ 1048576 := by
  unfold lvl
  cases e : vpl t (varOf x) with
  | none => exact ⟨Int.le_refl _, by show (0 : Int) ≤ 1048576; omega⟩
  | some i =>
    have h1 := (vpl_some e).1
    have h2 := h.lev i h1
    have := h.len
    exact ⟨h2.1, by show (t.getD i e0).2.1 ≤ _; omega⟩
set_option maxHeartbeats 3200000 in
theorem levels_any (v vc : Value) (t : List Ent) (zs : List Int) (w : World) (hr : RdE w v t) (hz : Rd w vc zs) :
    Calls Try.prog 8 #[v, vc] w fun e w' => e = .returned (.tuple #[.int .i64 (lvsI t zs).1, .int .i64 (lvsI t zs).2]) ∧ Below w.heap.size w w' := by
  have hl := hz.len
  have HRd : Hid (Calls Try.prog 30 #[v] w fun e w' => ∃ xa xn xc ym, e = .returned (.tuple #[.agg #[.slice xa xn xc, .map ym], .bool (frmE t)]) ∧ Below w.heap.size w w' ∧ (frmE t = true → ∃ g, v = .slice xa t.length xc ∧ xn = t.length ∧ ym = some g ∧ Rz w' xa t xc g t ∧ w.heap.size ≤ g)) := read_any v t w hr
  have HSo : Hid (∀ W, Below w.heap.size w W → Calls Try.prog 31 #[vc] W fun e w' => e = .returned (.bool (zs.all fmd)) ∧ w' = W) := fun W h => sound_any vc zs W (hz.below h)
  obtain ⟨LI, hLI⟩ : ∃ LI, lvsI t zs = LI := ⟨_, rfl⟩
  have HLI : Hid ((if frmE t && zs.all fmd then (if hasB t zs then (((dis (zs.map (lvl t))).length : Int), 0) else ((0 : Int), (2 : Int))) else ((0 : Int), (1 : Int))) = LI) := by rw [← hLI]; rfl
  rw [hLI]
  have HZ : Hid (Rd w vc zs) := hz
  clear hr hz hLI
  cases h1 : frmE t
  · have HE : Hid (LI = (0, 1)) := by show LI = _; rw [← HLI.out, h1]; rfl
    rw [h1] at HRd
    clear h1 HLI
    go_enter Try.func8, Try.ntmps8
    go_wp2_with (first | (go_at_call 30; refine HRd.out.mono ?_; rintro e w1 ⟨xa, xn, xc, ym, rfl, bE, _⟩; have HB : Hid (Below w.heap.size w w1) := bE; clear bE))
    go_ret2
    exact ⟨by rw [HE.out]; rfl, Below.step HB.out (below_box _ _)⟩
  cases h2 : zs.all fmd
  · have HE : Hid (LI = (0, 1)) := by show LI = _; rw [← HLI.out, h1, h2]; rfl
    rw [h1] at HRd
    rw [h2] at HSo
    clear h1 h2 HLI
    go_enter Try.func8, Try.ntmps8
    go_wp2_with (first | (go_at_call 30; refine HRd.out.mono ?_; rintro e w1 ⟨xa, xn, xc, ym, rfl, bE, _⟩; have HB : Hid (Below w.heap.size w w1) := bE; clear bE) | (go_at_call 31; refine (HSo.out _ (Below.step HB.out (below_box _ _))).mono ?_; rintro e w2 ⟨rfl, hw⟩; obtain rfl := hw.symm))
    go_ret2
    exact ⟨by rw [HE.out]; rfl, Below.step HB.out (below_box _ _)⟩
  have HWs : Hid (Ws t) := (frmE_iff t).1 h1
  have HLI2 : Hid ((if hasB t zs then (((dis (zs.map (lvl t))).length : Int), 0) else ((0 : Int), (2 : Int))) = LI) := by have := HLI.out; rw [h1, h2] at this; exact this
  have HFm : Hid (zs.all fmd = true) := h2
  rw [h1] at HRd
  rw [h2] at HSo
  clear h1 h2 HLI
  go_enter Try.func8, Try.ntmps8
  go_upto_region 4 with (first | (go_at_call 30; refine HRd.out.mono ?_; rintro e w1 ⟨xa, xn, xc, ym, rfl, bE, hrz⟩; obtain ⟨g, hv, rfl, rfl, hrz, _⟩ := hrz rfl; have HB : Hid (Below w.heap.size w w1 ∧ Rz w1 xa t xc g t) := ⟨bE, hrz⟩; subst hv; clear bE hrz) | (go_at_call 31; refine (HSo.out _ (Below.step HB.out.1 (below_box _ _))).mono ?_; rintro e w2 ⟨rfl, hw⟩; obtain rfl := hw.symm))
  obtain ⟨ua, uc, rfl, huc, hum, _⟩ := HZ.out.form
  have hb1 := HB.out.2.bnd
  have HWb : Hid (∀ W, Below (w1.alloc (.cells #[.slice xa t.length xc, .map (some g)] 51)).heap.size (w1.alloc (.cells #[.slice xa t.length xc, .map (some g)] 51)) W → Below w.heap.size w W ∧ Rz W xa t xc g t ∧ W.cell? ⟨w1.heap.size, 0, none⟩ = some (.slice xa t.length xc) ∧ W.cell? ⟨w1.heap.size, 1, none⟩ = some (.map (some g)) ∧ Rd W (.slice ua zs.length uc) zs) := fun W hW => by
    have h1 : Below w1.heap.size w1 W := Below.step (below_box _ _) hW
    have h0 : Below w.heap.size w W := Below.step HB.out.1 h1
    exact ⟨h0, HB.out.2.below h1, box_at hW rfl, box_at hW rfl, HZ.out.below h0⟩
  clear HB HSo HRd
  generalize w1.alloc (.cells #[.slice xa t.length xc, .map (some g)] 51) = wb at *
  obtain ⟨Y, hY⟩ : ∃ Y, w1.heap.size = Y := ⟨_, rfl⟩
  rw [hY] at HWb ⊢
  clear hY
  obtain ⟨G, hG⟩ : ∃ G, wb.heap.size = G := ⟨_, rfl⟩
  have HS := LvL.start wb t zs
  have hmake : (Instr.makeMap 57 none).run Try.prog wb = .ok (.map (some G)) (wb.alloc (.map #[] 0)) := by rw [← hG]; rfl
  go_wp2_with fail
  clear hmake
  go_loopg [28] zs.length (fun g' j wr => ∃ k : Nat, k + g' = zs.length ∧ j = .int .i64 k ∧ hasB t (zs.take k) = true ∧ Hid (LvL wb wr t zs k))
  case atStart => exact ⟨0, by omega, rfl, rfl, HS⟩
  case round =>
    obtain ⟨k, hk, rfl, hall, HL⟩ := hrel
    have HA : Hid (hasB t (zs.take k) = true) := hall
    have HK : Hid (k + gk = zs.length) := hk
    obtain ⟨_, hrz, f0, f1, hrd⟩ := HWb.out wr HL.out.bel
    clear hall HS
    by_cases hlt : k < zs.length
    · obtain ⟨ua', uc', e', _, _, hcell⟩ := hrd.form
      injection e' with q1 q2 q3
      subst q1 q3
      obtain ⟨b2, off2, rfl, hck⟩ := hcell k hlt
      have HM := all_more (fun x => (vpl t (varOf x)).isSome) zs k hlt
      have HN : Hid ((vpl t (varOf (zs.getD k 0))).isSome = false → hasB t zs = false) := fun h => all_no hlt h
      have HM2 : Hid ((vpl t (varOf (zs.getD k 0))).isSome = true → hasB t (zs.take (k + 1)) = true) := fun h => by
        show (zs.take (k + 1)).all _ = true
        rw [HM]; exact Bool.and_eq_true_iff.2 ⟨HA.out, h⟩
      have hv := varOf_le (zs.getD k 0)
      obtain ⟨vv, hve⟩ : ∃ vv, varOf (zs.getD k 0) = vv := ⟨_, rfl⟩
      have HV : Hid (∀ W : World, Calls Try.prog 32 #[.int .i64 (zs.getD k 0)] W fun e w' => e = .returned (.int .i64 vv) ∧ w' = W) := fun W => by rw [← hve]; exact var_any _ _
      have hlk : ∀ n, (Instr.lookup 49 (.map (some g)) (.int .i64 vv) true).run Try.prog (wr.drewN n) = .ok (.tuple #[.int .i64 (((vpl t vv).getD 0 : Nat) : Int), .bool (vpl t vv).isSome]) (wr.drewN n) := fun n => (hrz.drewN n).map.look (by omega) (by omega)
      have HLv : Hid (lvl t (zs.getD k 0) = match vpl t vv with | some i => (t.getD i e0).2.1 | none => 0) := by show _ = _; unfold lvl; rw [hve]; rfl
      have hlr := HWs.out.lvl_range (zs.getD k 0)
      have hmx : k < maxLen := by unfold maxLen; omega
      have HMo : Hid (∀ n, ∃ w', (Instr.mapUpdate 57 (.map (some G)) (.int .i64 (lvl t (zs.getD k 0))) (.agg #[])).run Try.prog (wr.drewN n) = .ok () w' ∧ LvL wb w' t zs (k + 1)) := fun n => by rw [← hG]; exact (HL.out.drewN n).more hlt hmx (by omega) (by omega)
      rw [hve] at HN HM2
      have HBl : Hid (∀ W, Below wr.heap.size wr W → Below w.heap.size w W) := fun W hW => (HWb.out W (HL.out.bel.trans (hW.mono HL.out.bel.size))).1
      have HE2 : Hid (hasB t zs = false → LI = (0, 2)) := fun h => by rw [← HLI2.out, h]; rfl
      clear hk HM hcell hrd hve hv hlr
      generalize zs.getD k 0 = y at *
      cases hvp : vpl t vv with
      | none =>
        have HT : Hid (LI = (0, 2)) := HE2.out (HN.out (by rw [hvp]; rfl))
        rw [hvp] at hlk
        dsimp only [Option.getD, Option.isSome] at hlk
        clear HN HM2 HMo HLv hrz hvp
        go_upto_region 8 with fail
        go_quiet ((go_at_call 32; exact Calls.quiet_of_same (HV.out _)))
        go_wp2_with fail
        go_ret2
        exact ⟨by rw [HT.out]; rfl, HBl.out _ (below_drewN _ _)⟩
      | some i =>
        have HT : Hid (hasB t (zs.take (k + 1)) = true) := HM2.out (by rw [hvp]; rfl)
        obtain ⟨hi, _⟩ := hrz.at hvp
        obtain ⟨b, off, u, rfl, hbl, c0, c1, c2, _⟩ := hrz.cells hi
        rw [hvp] at hlk
        dsimp only [Option.getD, Option.isSome] at hlk
        have hLv : lvl t y = (t.getD i e0).2.1 := by have := HLv.out; rw [hvp] at this; exact this
        rw [hLv] at HMo
        clear HN HM2 HLv hrz hvp c0 c2 hLv
        generalize (t.getD i e0).2.1 = lv at *
        go_upto_region 8 with fail
        go_quiet ((go_at_call 32; exact Calls.quiet_of_same (HV.out _)))
        obtain ⟨w5, hrun5, h5⟩ := HMo.out nq
        have H5 : Hid (LvL wb w5 t zs (k + 1)) := h5
        clear h5
        go_wp2_with fail
        go_roundg (gk - 1)
        case measure => have := HK.out; omega
        case rel => exact ⟨k + 1, by have := HK.out; omega, by go_num, HT.out, H5.out⟩
    · obtain rfl : k = zs.length := by omega
      have HE : Hid (LI = (((dis (zs.map (lvl t))).length : Int), 0)) := by
        have h1 := HA.out
        rw [List.take_length] at h1
        show LI = _
        rw [← HLI2.out, h1]; rfl
      have hlen := HL.out.ms.len Try.underlying57 3
      rw [List.take_length, hG] at hlen
      clear hk hrz hrd
      go_wp2_with fail
      go_ret2
      exact ⟨by rw [HE.out]; rfl, (HWb.out wr HL.out.bel).1⟩
end Go.Proofs.Ytgngdohhlhlcpaa
set_option linter.unusedSimpArgs false
set_option linter.unusedVariables false
namespace Go.Proofs.Ytgngdohhlhlcpaa
open Go
/-- an entry's level, its literal's opposite; a literal's place -/
def lvP (t : List Ent) (p : Nat) : Int := (t.getD p e0).2.1
def opP (t : List Ent) (p : Nat) : Int := -(t.getD p e0).1
def plN (t : List Ent) (x : Int) : Nat := (vpl t (varOf x)).getD 0
/-- how many of the first n places are in the set, of level L -/
def cn (t : List Ent) (L : Int) (T : Int → Bool) : Nat → Nat
  | 0 => 0
  | n + 1 => cn t L T n + if T (n : Int) && lvP t n == L then 1 else 0
def adS (t : List Ent) (T : Int → Bool) (zs : List Int) : Int → Bool := zs.foldl (fun T x => inS T (plN t x : Int)) T
theorem adS_snoc (t : List Ent) (T : Int → Bool) (zs : List Int) (x : Int) : adS t T (zs ++ [x]) = inS (adS t T zs) (plN t x : Int) := by simp [adS, List.foldl_append]
theorem adS_mem (t : List Ent) (zs : List Int) : ∀ (T : Int → Bool) (q : Int), adS t T zs q = true ↔ T q = true ∨ ∃ x ∈ zs, (plN t x : Int) = q := by
  induction zs with
  | nil => intro T q; simp [adS]
  | cons x r ih =>
    intro T q
    have : adS t T (x :: r) = adS t (inS T (plN t x : Int)) r := rfl
    rw [this, ih]
    unfold inS
    simp only [Bool.or_eq_true, beq_iff_eq, List.mem_cons, exists_eq_or_imp]
    constructor
    · rintro ((h | h) | h)
      · exact .inr (.inl h.symm)
      · exact .inl h
      · exact .inr (.inr h)
    · rintro (h | h | h)
      · exact .inl (.inr h)
      · exact .inl (.inl h.symm)
      · exact .inr h
theorem inS_self {T : Int → Bool} {p : Int} (h : T p = true) : inS T p = T := by
  funext y
  unfold inS
  by_cases e : y = p
  · subst e; rw [h]; simp
  · rw [beq_eq_false_iff_ne.2 e]; rfl
theorem cn_in_ge (t : List Ent) (L : Int) (T : Int → Bool) (p : Nat) : ∀ n, n ≤ p → cn t L (inS T (p : Int)) n = cn t L T n
  | 0, _ => rfl
  | n + 1, h => by
    unfold cn
    rw [cn_in_ge t L T p n (by omega)]
    have : inS T (p : Int) (n : Int) = T (n : Int) := by
      unfold inS; rw [beq_eq_false_iff_ne.2 (by omega)]; rfl
    rw [this]
theorem cn_in (t : List Ent) (L : Int) (T : Int → Bool) (p : Nat) (hp : T (p : Int) = false) : ∀ n, p < n → cn t L (inS T (p : Int)) n = cn t L T n + if lvP t p == L then 1 else 0
  | 0, h => by omega
  | n + 1, h => by
    unfold cn
    by_cases e : p = n
    · subst e
      rw [cn_in_ge t L T p p (Nat.le_refl _)]
      have : inS T (p : Int) (p : Int) = true := by unfold inS; simp
      rw [this, hp]; simp
    · rw [cn_in t L T p hp n (by omega)]
      have : inS T (p : Int) (n : Int) = T (n : Int) := by
        unfold inS; rw [beq_eq_false_iff_ne.2 (by omega)]; rfl
      rw [this]; omega
theorem cn_out_ge (t : List Ent) (L : Int) (T : Int → Bool) (p : Nat) : ∀ n, n ≤ p → cn t L (outS T (p : Int)) n = cn t L T n
  | 0, _ => rfl
  | n + 1, h => by
    unfold cn
    rw [cn_out_ge t L T p n (by omega)]
    have : outS T (p : Int) (n : Int) = T (n : Int) := by
      unfold outS; rw [show ((n : Int) != (p : Int)) = true by simp; omega]; rfl
    rw [this]
theorem cn_out (t : List Ent) (L : Int) (T : Int → Bool) (p : Nat) (hp : T (p : Int) = true) (hl : lvP t p = L) : ∀ n, p < n → cn t L (outS T (p : Int)) n + 1 = cn t L T n
  | 0, h => by omega
  | n + 1, h => by
    unfold cn
    by_cases e : p = n
    · subst e
      rw [cn_out_ge t L T p p (Nat.le_refl _)]
      have : outS T (p : Int) (p : Int) = false := by unfold outS; simp
      rw [this, hp, hl]; simp
    · have ih := cn_out t L T p hp hl n (by omega)
      have : outS T (p : Int) (n : Int) = T (n : Int) := by
        unfold outS; rw [show ((n : Int) != (p : Int)) = true by simp; omega]; rfl
      rw [this]; omega
theorem cn_le (t : List Ent) (L : Int) (T : Int → Bool) : ∀ n, cn t L T n ≤ n
  | 0 => Nat.le_refl _
  | n + 1 => by
    have := cn_le t L T n
    unfold cn
    split <;> omega
theorem cn_none (t : List Ent) (L : Int) (T : Int → Bool) : ∀ n k, k ≤ n → (∀ p : Nat, k ≤ p → T (p : Int) = false) → cn t L T n = cn t L T k
  | 0, k, hk, _ => by obtain rfl : k = 0 := by omega
                      rfl
  | n + 1, k, hk, h => by
    by_cases e : k = n + 1
    · subst e; rfl
    · have ih := cn_none t L T n k (by omega) h
      have : T (n : Int) = false := h n (by omega)
      unfold cn
      rw [this, ih]
      cases k <;> simp [cn]
theorem cn_pos (t : List Ent) (L : Int) (T : Int → Bool) : ∀ n, 0 < cn t L T n → ∃ p : Nat, p < n ∧ T (p : Int) = true ∧ lvP t p = L
  | 0, h => by simp [cn] at h
  | n + 1, h => by
    unfold cn at h
    cases hc : (T (n : Int) && lvP t n == L) with
    | true =>
      rw [Bool.and_eq_true, beq_iff_eq] at hc
      exact ⟨n, by omega, hc.1, hc.2⟩
    | false =>
      rw [hc] at h
      obtain ⟨p, h1, h2⟩ := cn_pos t L T n (by simpa using h)
      exact ⟨p, by omega, h2⟩
theorem cn_has (t : List Ent) (L : Int) (T : Int → Bool) (p : Nat) (hp : T (p : Int) = true) (hl : lvP t p = L) : ∀ n, p < n → 0 < cn t L T n
  | 0, h => by omega
  | n + 1, h => by
    unfold cn
    by_cases e : p = n
    · subst e; rw [hp, hl]; simp
    · have := cn_has t L T p hp hl n (by omega)
      omega
/-- the one of level L, where there is just one -/
theorem cn_one (t : List Ent) (L : Int) (T : Int → Bool) (n : Nat) (h : cn t L T n = 1) {p q : Nat} (hp : p < n) (hq : q < n) (tp : T (p : Int) = true) (tq : T (q : Int) = true) (lp : lvP t p = L) (lq : lvP t q = L) : p = q := by
  by_cases e : p = q
  · exact e
  · have h1 := cn_out t L T p tp lp n hp
    have h2 : outS T (p : Int) (q : Int) = true := by
      unfold outS; rw [show ((q : Int) != (p : Int)) = true by simp; omega, tq]; rfl
    have h3 := cn_has t L (outS T (p : Int)) q h2 lq n hq
    omega
/-- a reason's other literals -/
def rOth (t : List Ent) (k : Nat) : List Int := (t.getD k e0).2.2.filter (fun x => x != (t.getD k e0).1)
/-- resolved, from place k - 1 on -/
def rsv (t : List Ent) (L : Int) : Nat → (Int → Bool) → (Int → Bool)
  | 0, T => T
  | k + 1, T => if cn t L T t.length ≤ 1 then T else if T (k : Int) then rsv t L k (adS t (outS T (k : Int)) (rOth t k)) else rsv t L k T
theorem rsv_succ (t : List Ent) (L : Int) (k : Nat) (T : Int → Bool) : rsv t L (k + 1) T = if cn t L T t.length ≤ 1 then T else if T (k : Int) = true then rsv t L k (adS t (outS T (k : Int)) (rOth t k)) else rsv t L k T := rfl
/-- what holds of the set on the way -/
structure Iv (t : List Ent) (L : Int) (k : Nat) (T : Int → Bool) : Prop where
  bnd : ∀ q, T q = true → 0 ≤ q ∧ q < (k : Int)
  lev : ∀ p : Nat, T (p : Int) = true → lvP t p ≤ L
  le : k ≤ t.length
theorem Ws.plN_some {t : List Ent} (h : Ws t) {x : Int} {i : Nat} (hx : fmd x = true) (hi : plc t x = some i) : plN t x = i ∧ i < t.length ∧ opP t i = x ∧ lvl t x = lvP t i := by
  have h1 := h.plc_vpl hx hi
  obtain ⟨h2, h3, _⟩ := plc_some hi
  refine ⟨by unfold plN; rw [h1]; rfl, h2, by unfold opP; rw [h3]; omega, by unfold lvl lvP; rw [h1]⟩
theorem Ws.isF_at {t : List Ent} (h : Ws t) {x : Int} (hx : isF t x = true) : fmd x = true ∧ plN t x < t.length ∧ opP t (plN t x) = x ∧ lvl t x = lvP t (plN t x) ∧ plc t x = some (plN t x) := by
  obtain ⟨h1, i, h2⟩ := h.isF_iff.1 hx
  obtain ⟨h3, h4, h5, h6⟩ := h.plN_some h1 h2
  rw [h3]; exact ⟨h1, h4, h5, h6, h2⟩
/-- the opposite of an entry's literal is false, at its place -/
theorem Ws.opP_at {t : List Ent} (h : Ws t) {p : Nat} (hp : p < t.length) : fmd (opP t p) = true ∧ isF t (opP t p) = true ∧ plN t (opP t p) = p := by
  have h1 := fmd_neg (h.lit hp)
  have h2 : vpl t (varOf (opP t p)) = some p := by
    unfold opP
    rw [varOf_opp (h.lit hp)]
    cases e : vpl t (varOf (t.getD p e0).1) with
    | none => exact absurd rfl (vpl_none.1 e p hp)
    | some j =>
      obtain ⟨k1, k2, _⟩ := vpl_some e
      rw [h.one (i := j) (j := p) k1 hp (by rw [k2])]
  refine ⟨h1, ?_, by unfold plN; rw [h2]; rfl⟩
  unfold isF
  rw [h2]
  show ((t.getD p e0).1 == -opP t p) = true
  unfold opP; simp
theorem Ws.rOth_at {t : List Ent} (h : Ws t) {k : Nat} (hk : k < t.length) {x : Int} (hx : x ∈ rOth t k) : isF t x = true ∧ plN t x < k := by
  obtain ⟨h1, h2⟩ := List.mem_filter.1 hx
  have hr : (t.getD k e0).2.2.length ≠ 0 := by
    intro e
    rw [List.length_eq_zero_iff.1 e] at h1
    cases h1
  obtain ⟨q1, j, hj, q2⟩ := (h.reason hk hr).2 x h1 (by simpa using h2)
  have := h.plN_some q1 q2
  exact ⟨h.isF_iff.2 ⟨q1, j, q2⟩, by omega⟩
theorem lvP_rise {t : List Ent} (h : Ws t) {i j : Nat} (hj : j < t.length) (hij : i ≤ j) : lvP t i ≤ lvP t j := h.rise hj hij
/-- at the greatest place of the set it is of level L, as long as there are two -/
theorem Iv.at {t : List Ent} {L : Int} {k : Nat} {T : Int → Bool} (h : Iv t L (k + 1) T) (hw : Ws t) (hc : 1 < cn t L T t.length) (hk : T (k : Int) = true) : lvP t k = L := by
  obtain ⟨p, h1, h2, h3⟩ := cn_pos t L T t.length (by omega)
  have h4 := (h.bnd _ h2).2
  have h5 := lvP_rise hw (i := p) (j := k) (by have := h.le; omega) (by omega)
  have h6 := h.lev k hk
  omega
theorem Iv.step {t : List Ent} {L : Int} {k : Nat} {T : Int → Bool} (h : Iv t L (k + 1) T) (hw : Ws t) (hc : 1 < cn t L T t.length) (hk : T (k : Int) = true) : Iv t L k (adS t (outS T (k : Int)) (rOth t k)) := by
  have hL := h.at hw hc hk
  have hkl : k < t.length := by have := h.le; omega
  refine ⟨fun q hq => ?_, fun p hp => ?_, by omega⟩
  · rcases (adS_mem t _ _ q).1 hq with h1 | ⟨x, hx, rfl⟩
    · unfold outS at h1
      rw [Bool.and_eq_true, bne_iff_ne] at h1
      have := h.bnd q h1.2
      omega
    · have := (hw.rOth_at hkl hx).2
      omega
  · rcases (adS_mem t _ _ _).1 hp with h1 | ⟨x, hx, e⟩
    · unfold outS at h1
      rw [Bool.and_eq_true] at h1
      exact h.lev p h1.2
    · have h2 := (hw.rOth_at hkl hx).2
      have h3 : plN t x = p := by omega
      rw [h3] at h2
      have := lvP_rise hw (i := p) (j := k) hkl (by omega)
      omega
theorem Iv.skip {t : List Ent} {L : Int} {k : Nat} {T : Int → Bool} (h : Iv t L (k + 1) T) (hk : T (k : Int) = false) : Iv t L k T := by
  refine ⟨fun q hq => ?_, h.lev, by have := h.le; omega⟩
  have h1 := h.bnd q hq
  by_cases e : q = (k : Int)
  · subst e; rw [hk] at hq; cases hq
  · omega
/-- adding takes nothing from the count -/
theorem cn_adS (t : List Ent) (L : Int) (zs : List Int) : ∀ (T : Int → Bool), (∀ x ∈ zs, plN t x < t.length) → cn t L T t.length ≤ cn t L (adS t T zs) t.length := by
  induction zs with
  | nil => intro T _; exact Nat.le_refl _
  | cons x r ih =>
    intro T h
    have h1 := ih (inS T (plN t x : Int)) (fun y hy => h y (by simp [hy]))
    have h2 : cn t L T t.length ≤ cn t L (inS T (plN t x : Int)) t.length := by
      cases e : T (plN t x : Int) with
      | true => rw [inS_self e]; exact Nat.le_refl _
      | false => rw [cn_in t L T _ e _ (h x (by simp))]; omega
    exact Nat.le_trans h2 h1
/-- in the end just one is of level L -/
theorem rsv_end {t : List Ent} (hw : Ws t) {L : Int} : ∀ (k : Nat) (T : Int → Bool), Iv t L k T → 0 < cn t L T t.length → cn t L (rsv t L k T) t.length = 1 ∧ Iv t L t.length (rsv t L k T)
  | 0, T, h, hc => by
    have := cn_none t L T t.length 0 (by omega) (fun p _ => by
      cases e : T (p : Int) with
      | false => rfl
      | true => have := h.bnd _ e; omega)
    rw [this] at hc
    simp [cn] at hc
  | k + 1, T, h, hc => by
    unfold rsv
    have hle := h.le
    split
    · rename_i h1
      exact ⟨by omega, ⟨fun q hq => by have := h.bnd q hq; omega, h.lev, Nat.le_refl _⟩⟩
    · rename_i h1
      split
      · rename_i h2
        have hs := h.step hw (by omega) h2
        refine rsv_end hw k _ hs ?_
        have h3 := cn_out t L T k h2 (h.at hw (by omega) h2) t.length (by omega)
        have h4 := cn_adS t L (rOth t k) (outS T (k : Int)) (fun x hx => by have := (hw.rOth_at (by omega) hx).2; omega)
        omega
      · rename_i h2
        exact rsv_end hw k T (h.skip (by simpa using h2)) hc
/-- skipping what isn't in the set -/
theorem rsv_skip {t : List Ent} {L : Int} {T : Int → Bool} (hc : 1 < cn t L T t.length) {p : Nat} (hp : T (p : Int) = true) : ∀ k, p < k → (∀ q : Nat, p < q → q < k → T (q : Int) = false) → rsv t L k T = rsv t L p (adS t (outS T (p : Int)) (rOth t p))
  | 0, h, _ => by omega
  | k + 1, h, hn => by
    rw [rsv_succ, if_neg (by omega)]
    by_cases e : k = p
    · subst e; rw [if_pos hp]
    · rw [if_neg (by rw [hn k (by omega) (by omega)]; simp)]
      exact rsv_skip hc hp k (by omega) (fun q h1 h2 => hn q h1 (by omega))
theorem rsv_stop {t : List Ent} {L : Int} {T : Int → Bool} (hc : cn t L T t.length ≤ 1) : ∀ k, rsv t L k T = T
  | 0 => rfl
  | k + 1 => by unfold rsv; rw [if_pos hc]
/-- the literals of a set of places -/
def ltS (t : List Ent) (T : Int → Bool) : List Int := ((List.range t.length).filter fun (p : Nat) => T (p : Int)).map (opP t)
theorem ltS_mem {t : List Ent} {T : Int → Bool} {x : Int} : x ∈ ltS t T ↔ ∃ p : Nat, p < t.length ∧ T (p : Int) = true ∧ opP t p = x := by
  simp [ltS, and_assoc]
/-- the greatest level of some literals -/
def topI (t : List Ent) (zs : List Int) : Int := zs.foldl (fun m x => max m (lvl t x)) 0
theorem topI_snoc (t : List Ent) (zs : List Int) (x : Int) : topI t (zs ++ [x]) = max (topI t zs) (lvl t x) := by simp [topI, List.foldl_append]
theorem topI_is (t : List Ent) (zs : List Int) : 0 ≤ topI t zs ∧ (∀ x ∈ zs, lvl t x ≤ topI t zs) ∧ (topI t zs = 0 ∨ ∃ x ∈ zs, lvl t x = topI t zs) := by
  have key : ∀ (zs : List Int) (m : Int), m ≤ zs.foldl (fun m x => max m (lvl t x)) m ∧ (∀ x ∈ zs, lvl t x ≤ zs.foldl (fun m x => max m (lvl t x)) m) ∧ (zs.foldl (fun m x => max m (lvl t x)) m = m ∨ ∃ x ∈ zs, lvl t x = zs.foldl (fun m x => max m (lvl t x)) m) := by
    intro zs
    induction zs with
    | nil => intro m; exact ⟨Int.le_refl _, fun x h => (by cases h), Or.inl rfl⟩
    | cons y r ih =>
      intro m
      obtain ⟨h1, h2, h3⟩ := ih (max m (lvl t y))
      rw [List.foldl_cons]
      refine ⟨by omega, fun x hx => ?_, ?_⟩
      · rcases List.mem_cons.1 hx with rfl | hx
        · omega
        · exact h2 x hx
      · rcases h3 with h3 | ⟨x, hx, h3⟩
        · by_cases e : m ≤ lvl t y
          · right; exact ⟨y, by simp, by omega⟩
          · left; omega
        · right; exact ⟨x, by simp [hx], h3⟩
  have := key zs 0
  exact ⟨this.1, this.2.1, this.2.2⟩
theorem topI_congr (t : List Ent) {zs ys : List Int} (h : ∀ x, x ∈ zs ↔ x ∈ ys) : topI t zs = topI t ys := by
  have h1 := topI_is t zs
  have h2 := topI_is t ys
  have a : topI t zs ≤ topI t ys := by
    rcases h1.2.2 with e | ⟨x, hx, e⟩
    · omega
    · have := h2.2.1 x ((h x).1 hx); omega
  have b : topI t ys ≤ topI t zs := by
    rcases h2.2.2 with e | ⟨x, hx, e⟩
    · omega
    · have := h1.2.1 x ((h x).2 hx); omega
  omega
/-- the set that a clash begins with, and ends with -/
def T0 (t : List Ent) (zs : List Int) : Int → Bool := adS t (fun _ => false) zs
def RS (t : List Ent) (zs : List Int) : Int → Bool := rsv t (topI t zs) t.length (T0 t zs)
/-- the one of level L of a set; the others that aren't of level 0 -/
def oneL (t : List Ent) (L : Int) (T : Int → Bool) : Int := ((ltS t T).filter fun x => lvl t x == L).headD 0
def othL (t : List Ent) (L : Int) (T : Int → Bool) : List Int := (ltS t T).filter fun x => lvl t x != 0 && lvl t x != L
/-- what is learnt, and the level to go back to -/
def lrnC (t : List Ent) (zs : List Int) : List Int := if topI t zs = 0 then [] else oneL t (topI t zs) (RS t zs) :: tid (othL t (topI t zs) (RS t zs))
def lrnB (t : List Ent) (zs : List Int) : Int := if topI t zs = 0 then -1 else topI t (othL t (topI t zs) (RS t zs))
theorem T0_iv {t : List Ent} (hw : Ws t) {zs : List Int} (hf : falB t zs = true) : Iv t (topI t zs) t.length (T0 t zs) := by
  unfold falB at hf
  rw [List.all_eq_true] at hf
  refine ⟨fun q hq => ?_, fun p hp => ?_, Nat.le_refl _⟩
  · rcases (adS_mem t _ _ q).1 hq with h1 | ⟨x, hx, rfl⟩
    · cases h1
    · have := (hw.isF_at (hf x hx)).2.1; omega
  · rcases (adS_mem t _ _ _).1 hp with h1 | ⟨x, hx, e⟩
    · cases h1
    · obtain ⟨h1, h2, h3, h4, _⟩ := hw.isF_at (hf x hx)
      have h5 : plN t x = p := by omega
      rw [h5] at h4
      rw [← h4]
      exact (topI_is t zs).2.1 x hx
theorem T0_cn {t : List Ent} (hw : Ws t) {zs : List Int} (hf : falB t zs = true) (h0 : topI t zs ≠ 0) : 0 < cn t (topI t zs) (T0 t zs) t.length := by
  unfold falB at hf
  rw [List.all_eq_true] at hf
  rcases (topI_is t zs).2.2 with e | ⟨x, hx, e⟩
  · exact absurd e h0
  · obtain ⟨h1, h2, h3, h4, _⟩ := hw.isF_at (hf x hx)
    exact cn_has t _ _ (plN t x) ((adS_mem t _ _ _).2 (.inr ⟨x, hx, rfl⟩)) (by rw [← h4, e]) _ h2
theorem RS_end {t : List Ent} (hw : Ws t) {zs : List Int} (hf : falB t zs = true) (h0 : topI t zs ≠ 0) : cn t (topI t zs) (RS t zs) t.length = 1 ∧ Iv t (topI t zs) t.length (RS t zs) := rsv_end hw _ _ (T0_iv hw hf) (T0_cn hw hf h0)
end Go.Proofs.Ytgngdohhlhlcpaa
set_option linter.unusedSimpArgs false
set_option linter.unusedVariables false
namespace Go.Proofs.Ytgngdohhlhlcpaa
open Go Go.RowKit
/-- a box of one cell -/
def Bo1 (W : World) (D : Nat) (T : TypeId) (v : Value) : Prop := W.heap[D]? = some (.cells #[v] T (0, 0))
section
variable {W W' : World} {D : Nat} {T : TypeId} {v : Value}
theorem Bo1.lt (h : Bo1 W D T v) : D < W.heap.size := (Array.getElem?_eq_some_iff.1 h).1
theorem Bo1.c (h : Bo1 W D T v) : W.cell? ⟨D, 0, none⟩ = some v := by simp [World.cell?, show W.heap[D]? = _ from h]
theorem Bo1.f (h : Bo1 W D T v) : W.frozen? ⟨D, 0, none⟩ = false := by simp [World.frozen?, show W.heap[D]? = _ from h]
theorem Bo1.new (W : World) (T : TypeId) (v : Value) : Bo1 (W.alloc (.cells #[v] T)) W.heap.size T v := World.alloc_heap_new W _
theorem Bo1.kept {row : Option Nat} (h : Bo1 W D T v) (hg : W.grownBy W' row) (hne : some D ≠ row) : Bo1 W' D T v := (hg.block D h.lt hne).trans h
theorem Bo1.below (h : Bo1 W D T v) (hb : Below W.heap.size W W') : Bo1 W' D T v := (hb.block D h.lt).trans h
theorem Bo1.set (h : Bo1 W D T v) (u : Value) : Bo1 (W.setCell ⟨D, 0, none⟩ u) D T u := by
  obtain ⟨hlt, hk⟩ := Array.getElem?_eq_some_iff.1 h
  show (W.heap.modify D _)[D]? = _
  rw [Array.getElem?_eq_getElem (by rw [Array.size_modify]; exact hlt), Array.getElem_modify_self, hk]
  rfl
end
/-- the state of resolved: X the reading's box, X + 1 the level's, X + 2 the set, X + 3 its box, X + 4 how many are left -/
structure Rv (w0 W : World) (X : Nat) (a : Option Addr) (t : List Ent) (c g : Nat) (L : Int) (n : Nat) (T : Int → Bool) : Prop where
  rz0 : Rz w0 a t c g t
  eX : w0.heap.size = X
  bel : Below X w0 W
  box : Bx2 W X 51 (.slice a t.length c) (.map (some g))
  lvb : Bo1 W (X + 1) 3 (.int .i64 L)
  ms : ∃ s, Ms W (X + 2) n s T
  stb : Bo1 W (X + 3) 58 (.map (some (X + 2)))
  lf : Bo1 W (X + 4) 3 (.int .i64 (cn t L T t.length : Int))
section
variable {w0 W W' : World} {X : Nat} {a : Option Addr} {t : List Ent} {c g : Nat} {L : Int} {n : Nat} {T : Int → Bool}
theorem Rv.rz (h : Rv w0 W X a t c g L n T) : Rz W a t c g t := h.rz0.below (by rw [h.eX]; exact h.bel)
theorem Rv.below (h : Rv w0 W X a t c g L n T) (hb : Below W.heap.size W W') : Rv w0 W' X a t c g L n T := by
  obtain ⟨s, hs⟩ := h.ms
  exact ⟨h.rz0, h.eX, h.bel.trans (hb.mono (Nat.le_of_lt h.box.lt)), h.box.below hb, h.lvb.below hb, ⟨s, hs.below hb⟩, h.stb.below hb, h.lf.below hb⟩
theorem Ms.mono {W : World} {g n n' s : Nat} {T : Int → Bool} (h : Ms W g n s T) (hn : n ≤ n') : Ms W g n' s T := by
  obtain ⟨D, h1, h2⟩ := h
  exact ⟨D, h1.mono hn, h2⟩
theorem Rv.wide (h : Rv w0 W X a t c g L n T) {n' : Nat} (hn : n ≤ n') : Rv w0 W X a t c g L n' T := by
  obtain ⟨s, hs⟩ := h.ms
  exact ⟨h.rz0, h.eX, h.bel, h.box, h.lvb, ⟨s, hs.mono hn⟩, h.stb, h.lf⟩
theorem grown_drewN {a b : World} {row : Option Nat} (h : a.grownBy b row) (n : Nat) : a.grownBy (b.drewN n) row := ⟨h.os, h.tape, h.output, h.size, h.block⟩
/-- one place more in the set; the count is to follow -/
theorem Rv.put (h : Rv w0 W X a t c g L n T) (p : Nat) (hp : p < t.length) (hn : n < maxLen) :
    ∃ w', (Instr.mapUpdate 58 (.map (some (X + 2))) (.int .i64 (p : Int)) (.agg #[])).run Try.prog W = .ok () w' ∧ W.grownBy w' (some (X + 2)) ∧ (∃ s, Ms w' (X + 2) (n + 1) s (inS T (p : Int))) := by
  obtain ⟨s, hs⟩ := h.ms
  have := h.rz.bnd
  obtain ⟨w', r1, r2, r3⟩ := hs.put Try.underlying58 (x := (p : Int)) (by omega) (by omega) hn
  exact ⟨w', r1, r3, _, r2⟩
theorem Rv.turned (h : Rv w0 W X a t c g L n T) (hg : W.grownBy W' (some (X + 2))) {n' : Nat} {T' : Int → Bool} (hm : ∃ s, Ms W' (X + 2) n' s T') (hc : cn t L T' t.length = cn t L T t.length) : Rv w0 W' X a t c g L n' T' :=
  ⟨h.rz0, h.eX, h.bel.grown hg (Nat.le_of_lt h.box.lt) (fun k hk => by cases hk; omega), h.box.kept hg (by simp), h.lvb.kept hg (by simp), hm, h.stb.kept hg (by simp), by rw [hc]; exact h.lf.kept hg (by simp)⟩
/-- the set has turned, and the count with it -/
theorem Rv.count (h : Rv w0 W X a t c g L n T) (hg : W.grownBy W' (some (X + 2))) {n' : Nat} {T' : Int → Bool} (hm : ∃ s, Ms W' (X + 2) n' s T') : Rv w0 (W'.setCell ⟨X + 4, 0, none⟩ (.int .i64 (cn t L T' t.length : Int))) X a t c g L n' T' := by
  have h1 : Below X w0 W' := h.bel.grown hg (Nat.le_of_lt h.box.lt) (fun k hk => by cases hk; omega)
  have g2 := grown_set W' ⟨X + 4, 0, none⟩ (.int .i64 (cn t L T' t.length : Int))
  obtain ⟨s, hs⟩ := hm
  have h5 := h.lf.kept hg (by simp)
  refine ⟨h.rz0, h.eX, below_set15 h1 (by omega) (Nat.le_of_lt (h.box.kept hg (by simp)).lt), (h.box.kept hg (by simp)).kept g2 (by simp), (h.lvb.kept hg (by simp)).kept g2 (by simp), ⟨s, hs.kept (g2.block _ hs.lt (by simp))⟩, (h.stb.kept hg (by simp)).kept g2 (by simp), h5.set _⟩
end
set_option maxHeartbeats 3200000 in
set_option maxRecDepth 100000 in
theorem put_any (w0 W : World) (X : Nat) (a : Option Addr) (t : List Ent) (c g : Nat) (L : Int) (n : Nat) (T : Int → Bool) (x : Int) (h : Rv w0 W X a t c g L n T) (hx : isF t x = true) (hn : n < 100000000000000) :
    Calls Try.prog 49 #[.int .i64 x, .pointer (some ⟨X, 0, none⟩), .pointer (some ⟨X + 3, 0, none⟩), .pointer (some ⟨X + 1, 0, none⟩), .pointer (some ⟨X + 4, 0, none⟩)] W fun e w' => e = .returned (.tuple #[]) ∧ Rv w0 w' X a t c g L (n + 1) (inS T (plN t x : Int)) := by
  obtain ⟨h1, h2, h3, h4, h5⟩ := h.rz.ws.isF_at hx
  have HP : Hid (Calls Try.prog 29 #[rV a t.length c g, .int .i64 x] W fun e w' => e = .returned (.int .i64 (plN t x : Int)) ∧ Below W.heap.size W w') := place_any a t t c g x W h.rz
  have HH : Hid (Rv w0 W X a t c g L n T) := h
  have hbn := h.rz.bnd
  have b0 := h.box.c0
  have b1 := h.box.c1
  have b2 := h.stb.c
  clear h1 h3 h4 h5 h hx
  generalize plN t x = p at *
  go_enter Try.func49, Try.ntmps49
  go_upto_region 1 with (go_at_call 29; refine HP.out.mono ?_; rintro e w1 ⟨rfl, bE⟩; have H1 : Hid (Rv w0 w1 X a t c g L n T) := HH.out.below bE; clear bE)
  obtain ⟨s, hms⟩ := H1.out.ms
  have hlk := hms.look Try.underlying58 (x := (p : Int)) (by omega) (by omega)
  have b3 := H1.out.stb.c
  have H2 : Hid (Rv w0 (w1.alloc (.cells #[] 68)) X a t c g L n T) := H1.out.below (below_box _ _)
  clear hms b0 b1 b2 HH HP
  cases hT : T (p : Int)
  · rw [hT] at hlk
    obtain ⟨w3, hrun, hg3, hm3⟩ := H2.out.put p h2 (by unfold maxLen; omega)
    have hcn : cn t L (inS T (p : Int)) t.length = cn t L T t.length + if lvP t p == L then 1 else 0 := cn_in t L T p hT t.length h2
    have hcl := cn_le t L T t.length
    have b5 := H2.out.stb.c
    have H3 : Hid (Rv w0 (w1.alloc (.cells #[] 68)) X a t c g L n T ∧ (w1.alloc (.cells #[] 68)).grownBy w3 (some (X + 2)) ∧ (∃ s, Ms w3 (X + 2) (n + 1) s (inS T (p : Int)))) := ⟨H2.out, hg3, hm3⟩
    have hB2 := Nat.le_of_lt H2.out.box.lt
    have HRz3 : Rz w3 a t c g t := H2.out.rz0.below (by rw [H2.out.eX]; exact H2.out.bel.grown hg3 hB2 (fun k hk => by cases hk; omega))
    obtain ⟨b, off, u, rfl, hbl, c0, c1, c2, _⟩ := HRz3.cells h2
    have d0 := (H2.out.box.kept hg3 (by simp)).c0
    have d1 := (H2.out.lvb.kept hg3 (by simp)).c
    have d2 := (H2.out.lf.kept hg3 (by simp)).c
    have d3 := (H2.out.lf.kept hg3 (by simp)).f
    have d4 := (H2.out.lf.kept hg3 (by simp)).lt
    have hlv : (t.getD p e0).2.1 = lvP t p := rfl
    rw [hlv] at c1
    have HCn : Hid (cn t L (inS T (p : Int)) t.length = cn t L T t.length + if lvP t p == L then 1 else 0) := hcn
    obtain ⟨m, hm⟩ : ∃ m, cn t L T t.length = m := ⟨_, rfl⟩
    have HM : Hid (cn t L T t.length = m) := hm
    rw [hm] at d2 hcl
    clear hg3 hm3 c0 c2 HRz3 hlv H1 H2 hcn hm hT hB2
    generalize hl : lvP t p = l at *
    have HL : Hid (lvP t p = l) := hl
    clear hl
    have hwr : IntKind.i64.wrap ((m : Int) + 1) = (m : Int) + 1 := by rw [IntKind.wrap_i64]; omega
    go_upto_region 4 with fail
    go_quiet (fail)
    by_cases hL : l = L
    · have hLb : (l == L) = true := by simpa using hL
      go_wp2_with fail
      go_end0
      refine ⟨rfl, ?_⟩
      obtain ⟨h31, h32, s3, h33⟩ := H3.out
      have q := h31.count (grown_drewN h32 nq) (n' := n + 1) (T' := inS T (p : Int)) ⟨s3, h33.kept rfl⟩
      have e1 := HCn.out
      rw [hLb, HM.out] at e1
      rw [e1] at q
      exact q
    · have hLb : (l == L) = false := by simpa using hL
      go_wp2_with fail
      go_end0
      refine ⟨rfl, ?_⟩
      obtain ⟨h31, h32, s3, h33⟩ := H3.out
      have e1 := HCn.out
      rw [hLb] at e1
      exact h31.turned (grown_drewN h32 nq) ⟨s3, h33.kept rfl⟩ e1
  · rw [hT] at hlk
    have HE : Hid (inS T (p : Int) = T) := inS_self hT
    go_wp2_with fail
    refine bodyPost_ret (results_none rfl _ _ _) rfl ?_
    refine ⟨rfl, ?_⟩
    rw [HE.out]
    exact H2.out.wide (by omega)
end Go.Proofs.Ytgngdohhlhlcpaa
set_option linter.unusedSimpArgs false
set_option linter.unusedVariables false
namespace Go.Proofs.Ytgngdohhlhlcpaa
open Go Go.RowKit
theorem Ws.vpl_or {t : List Ent} (h : Ws t) {x : Int} (hx : fmd x = true) : vpl t (varOf x) = (plc t x).or (plc t (-x)) := by
  cases e : plc t x with
  | some i => rw [h.plc_vpl hx e]; rfl
  | none =>
    cases e2 : plc t (-x) with
    | some i =>
      have := h.plc_vpl (fmd_neg hx) e2
      rw [varOf_opp hx] at this
      rw [this]; rfl
    | none =>
      have := vpl_both h hx
      rw [e, e2] at this
      simpa using this
set_option maxHeartbeats 3200000 in
set_option maxRecDepth 100000 in
theorem rLevels_any (v vc : Value) (t : List Ent) (zs : List Int) (w : World) (hr : RdE w v t) (hz : Rd w vc zs) :
    Calls Try.prog 16 #[v, vc] w fun e w' => e = .returned (.tuple #[.int .i64 (lvsI t zs).1, .int .i64 (lvsI t zs).2]) ∧ Below w.heap.size w w' := by
  have hl := hz.len
  have hl2 := hr.len
  have HFo : Hid (Calls Try.prog 17 #[v] w fun e w' => e = .returned (.bool (frmE t)) ∧ ∃ m, w' = w.drewN m) := r15Formed_any v t w hr
  have HSo : Hid (∀ m, Calls Try.prog 42 #[vc] (w.drewN m) fun e w' => e = .returned (.bool (zs.all fmd)) ∧ w' = w.drewN m) := fun m => rSound15_any _ zs _ (hz.below (below_drewN w m))
  obtain ⟨LI, hLI⟩ : ∃ LI, lvsI t zs = LI := ⟨_, rfl⟩
  have HLI : Hid ((if frmE t && zs.all fmd then (if hasB t zs then (((dis (zs.map (lvl t))).length : Int), 0) else ((0 : Int), (2 : Int))) else ((0 : Int), (1 : Int))) = LI) := by rw [← hLI]; rfl
  rw [hLI]
  have HR : Hid (RdE w v t) := hr
  have HZ : Hid (Rd w vc zs) := hz
  clear hLI hr hz
  cases h1 : frmE t
  · have HE : Hid (LI = (0, 1)) := by show LI = _; rw [← HLI.out, h1]; rfl
    rw [h1] at HFo
    clear h1 HLI
    go_enter Try.func16, Try.ntmps16
    go_wp2_with (first | (go_at_call 17; refine HFo.out.mono ?_; rintro e w' ⟨rfl, n1, hw⟩; obtain rfl := hw))
    go_ret2
    exact ⟨by rw [HE.out]; rfl, below_drewN _ _⟩
  cases h2 : zs.all fmd
  · have HE : Hid (LI = (0, 1)) := by show LI = _; rw [← HLI.out, h1, h2]; rfl
    rw [h1] at HFo
    rw [h2] at HSo
    clear h1 h2 HLI
    go_enter Try.func16, Try.ntmps16
    go_wp2_with (first | (go_at_call 17; refine HFo.out.mono ?_; rintro e w' ⟨rfl, n1, hw⟩; obtain rfl := hw) | (go_at_call 42; refine (HSo.out _).mono ?_; rintro e w' ⟨rfl, hw⟩; obtain rfl := hw.symm))
    go_ret2
    exact ⟨by rw [HE.out]; rfl, below_drewN _ _⟩
  have HWs : Hid (Ws t) := (frmE_iff t).1 h1
  have HLI2 : Hid ((if hasB t zs then (((dis (zs.map (lvl t))).length : Int), 0) else ((0 : Int), (2 : Int))) = LI) := by have := HLI.out; rw [h1, h2] at this; exact this
  have HFm : Hid (zs.all fmd = true) := h2
  rw [h1] at HFo
  rw [h2] at HSo
  clear h1 h2 HLI
  obtain ⟨a, c, rfl, hc, hm, _⟩ := HR.out.form
  obtain ⟨ua, uc, rfl, huc, hum, hcell⟩ := HZ.out.form
  obtain ⟨i0, hi, hz0, hz1, hz2⟩ := info_parts Try.info3
  clear hcell
  go_enter Try.func16, Try.ntmps16
  go_wp2_with (first | (go_at_call 17; refine HFo.out.mono ?_; rintro e w' ⟨rfl, n1, hw⟩; obtain rfl := hw) | (go_at_call 42; refine (HSo.out _).mono ?_; rintro e w' ⟨rfl, hw⟩; obtain rfl := hw.symm))
  go_loopg [6, 7] zs.length (fun g u i wr => ∃ k : Nat, k + g = zs.length ∧ i = .int .i64 k ∧ hasB t (zs.take k) = true ∧ Hid (Own w.heap.size wr u (dis ((zs.take k).map (lvl t)))) ∧ Below w.heap.size w wr)
  case atStart => exact ⟨0, by omega, rfl, rfl, World.ownsRow_nil _ _ _ _, below_drewN _ _⟩
  case round =>
    obtain ⟨k, hk, rfl, hall, HO, bel⟩ := hrel
    have HA : Hid (hasB t (zs.take k) = true) := hall
    have HK : Hid (k + gk = zs.length) := hk
    have HB : Hid (Below w.heap.size w wr) := bel
    have hsz := bel.size
    have hdl := dis_le ((zs.take k).map (lvl t))
    rw [List.length_map, List.length_take] at hdl
    obtain ⟨oa, oc, hu⟩ := own_form HO.out
    subst hu
    clear hall
    by_cases hlt : k < zs.length
    · have hdl2 : (dis ((zs.take k).map (lvl t))).length ≤ k := by omega
      have HRw : Hid (RdE wr (.slice a t.length c) t) := HR.out.below bel
      obtain ⟨ua', uc', e', _, _, hcell⟩ := (HZ.out.below bel).form
      injection e' with q1 q2 q3
      subst q1 q3
      obtain ⟨b2, off2, rfl, hck⟩ := hcell k hlt
      have hfy : fmd (zs.getD k 0) = true := (List.all_eq_true.1 HFm.out) _ (getD_mem' hlt)
      have hxr := fmd_range hfy
      have hwr : IntKind.i64.wrap (-(zs.getD k 0)) = -(zs.getD k 0) := by rw [IntKind.wrap_i64]; omega
      have HM := all_more (fun x => (vpl t (varOf x)).isSome) zs k hlt
      have HN : Hid ((vpl t (varOf (zs.getD k 0))).isSome = false → LI = (0, 2)) := fun h => by rw [← HLI2.out, show hasB t zs = false from all_no hlt h]; rfl
      have HM2 : Hid ((vpl t (varOf (zs.getD k 0))).isSome = true → hasB t (zs.take (k + 1)) = true) := fun h => by
        show (zs.take (k + 1)).all _ = true
        rw [HM]; exact Bool.and_eq_true_iff.2 ⟨HA.out, h⟩
      have HOr : Hid (vpl t (varOf (zs.getD k 0)) = (plc t (zs.getD k 0)).or (plc t (-(zs.getD k 0)))) := HWs.out.vpl_or hfy
      have HLv : Hid (∀ i, vpl t (varOf (zs.getD k 0)) = some i → lvl t (zs.getD k 0) = (t.getD i e0).2.1) := fun i h => by unfold lvl; rw [h]
      have HDs : Hid (dis ((zs.take (k + 1)).map (lvl t)) = addL (dis ((zs.take k).map (lvl t))) (lvl t (zs.getD k 0))) := by
        show _ = _
        rw [map_more (lvl t) zs k hlt, dis_snoc]
      have HPP : Hid (∀ x, x = zs.getD k 0 ∨ x = -(zs.getD k 0) → Calls Try.prog 37 #[.slice a t.length c, .int .i64 x] wr fun e w' => e = .returned (.int .i64 (plI t x)) ∧ w' = wr) := fun x hx => by
        rcases hx with hx | hx
        · rw [hx]; exact rPlace_any _ t _ _ HRw.out hfy
        · rw [hx]; exact rPlace_any _ t _ _ HRw.out (fmd_neg hfy)
      have HHI : Hid (∀ l, Calls Try.prog 41 #[.slice oa (dis ((zs.take k).map (lvl t))).length oc, .int .i64 l] wr fun e w' => e = .returned (.bool ((dis ((zs.take k).map (lvl t))).contains l)) ∧ w' = wr) := fun l => hasInt15_any _ _ l wr (HO.out.rd (by omega))
      generalize hD : dis ((zs.take k).map (lvl t)) = D at *
      clear hk HM hcell hfy hD hdl HLI2
      generalize zs.getD k 0 = y at *
      cases hp1 : plc t y with
      | some i =>
        have hi1 := (plc_some hp1).1
        have hvp : vpl t (varOf y) = some i := by rw [HOr.out, hp1]; rfl
        have HT : Hid (hasB t (zs.take (k + 1)) = true) := HM2.out (by rw [hvp]; rfl)
        have hLv := HLv.out i hvp
        have hpI : plI t y = (i : Int) := plI_some hp1
        obtain ⟨b, off, u, rfl, hbl, c0, c1, c2, _⟩ := HRw.out.at hi1
        rw [hLv] at HDs
        generalize (t.getD i e0).2.1 = lv at *
        cases hh : D.contains lv
        · have HD2 : Hid (dis ((zs.take (k + 1)).map (lvl t)) = D ++ [lv]) := by show _ = _; rw [HDs.out]; unfold addL; rw [hh]; rfl
          have HHI2 : Hid (Calls Try.prog 41 #[.slice oa D.length oc, .int .i64 lv] wr fun e w' => e = .returned (.bool false) ∧ w' = wr) := by have := HHI.out lv; rw [hh] at this; exact this
          clear HDs HM2 HN HOr HLv hvp hLv hp1 c0 c2 HHI hh
          go_wp2_with (first
            | (go_at_call 37; refine (HPP.out _ (by first | exact .inl rfl | exact .inr rfl)).mono ?_; rintro e w' ⟨rfl, hw⟩; obtain rfl := hw.symm; rw [hpI])
            | (go_at_call 41; refine HHI2.out.mono ?_; rintro e w' ⟨rfl, hw⟩; obtain rfl := hw.symm)
            | (at_builtin; refine wpList_append_own _ rfl _ _ 23 rfl w.heap.size 3 i0 (.int .i64 0) 1 8 Try.underlying23 hi hz0 hz1 hz2 rfl (by decide) _ D.length (D.map (Value.int .i64)) rfl (World.ownsRow.alloc HO.out _) _ 1 1 [.int .i64 lv] rfl rfl (cell_one_new _ _ _) (by simp [Value.oneCell']) (by unfold maxLen; omega) (by omega) (by simp; omega) ?_; intro v3 w3 own3 gr3 hn3))
          go_roundg (gk - 1)
          case measure => have := HK.out; omega
          case rel => exact ⟨k + 1, by have := HK.out; omega, by go_num, HT.out, by rw [HD2.out]; show World.ownsRow _ _ _ _ _ _ _; simpa using own3, (HB.out.alloc hsz _).grown gr3 (by simp; omega) (fun j hj => (World.ownsRow.lt HO.out j hj).1)⟩
        · have HD2 : Hid (dis ((zs.take (k + 1)).map (lvl t)) = D) := by show _ = _; rw [HDs.out]; unfold addL; rw [hh]; rfl
          have HHI2 : Hid (Calls Try.prog 41 #[.slice oa D.length oc, .int .i64 lv] wr fun e w' => e = .returned (.bool true) ∧ w' = wr) := by have := HHI.out lv; rw [hh] at this; exact this
          clear HDs HM2 HN HOr HLv hvp hLv hp1 c0 c2 HHI hh
          go_wp2_with (first
            | (go_at_call 37; refine (HPP.out _ (by first | exact .inl rfl | exact .inr rfl)).mono ?_; rintro e w' ⟨rfl, hw⟩; obtain rfl := hw.symm; rw [hpI])
            | (go_at_call 41; refine HHI2.out.mono ?_; rintro e w' ⟨rfl, hw⟩; obtain rfl := hw.symm))
          go_roundg (gk - 1)
          case measure => have := HK.out; omega
          case rel => exact ⟨k + 1, by have := HK.out; omega, by go_num, HT.out, by rw [HD2.out]; exact HO.out, HB.out⟩
      | none =>
        have hpN : plI t y = -1 := plI_none hp1
        cases hp2 : plc t (-y) with
        | some i =>
          have hi1 := (plc_some hp2).1
          have hvp : vpl t (varOf y) = some i := by rw [HOr.out, hp1, hp2]; rfl
          have HT : Hid (hasB t (zs.take (k + 1)) = true) := HM2.out (by rw [hvp]; rfl)
          have hLv := HLv.out i hvp
          have hpI : plI t (-y) = (i : Int) := plI_some hp2
          obtain ⟨b, off, u, rfl, hbl, c0, c1, c2, _⟩ := HRw.out.at hi1
          rw [hLv] at HDs
          generalize (t.getD i e0).2.1 = lv at *
          cases hh : D.contains lv
          · have HD2 : Hid (dis ((zs.take (k + 1)).map (lvl t)) = D ++ [lv]) := by show _ = _; rw [HDs.out]; unfold addL; rw [hh]; rfl
            have HHI2 : Hid (Calls Try.prog 41 #[.slice oa D.length oc, .int .i64 lv] wr fun e w' => e = .returned (.bool false) ∧ w' = wr) := by have := HHI.out lv; rw [hh] at this; exact this
            clear HDs HM2 HN HOr HLv hvp hLv hp1 hp2 c0 c2 HHI hh
            go_wp2_with (first
              | (go_at_call 37; refine (HPP.out _ (by first | exact .inl rfl | exact .inr rfl)).mono ?_; rintro e w' ⟨rfl, hw⟩; obtain rfl := hw.symm; first | rw [hpN] | rw [hpI])
              | (go_at_call 41; refine HHI2.out.mono ?_; rintro e w' ⟨rfl, hw⟩; obtain rfl := hw.symm)
              | (at_builtin; refine wpList_append_own _ rfl _ _ 23 rfl w.heap.size 3 i0 (.int .i64 0) 1 8 Try.underlying23 hi hz0 hz1 hz2 rfl (by decide) _ D.length (D.map (Value.int .i64)) rfl (World.ownsRow.alloc HO.out _) _ 1 1 [.int .i64 lv] rfl rfl (cell_one_new _ _ _) (by simp [Value.oneCell']) (by unfold maxLen; omega) (by omega) (by simp; omega) ?_; intro v3 w3 own3 gr3 hn3))
            go_roundg (gk - 1)
            case measure => have := HK.out; omega
            case rel => exact ⟨k + 1, by have := HK.out; omega, by go_num, HT.out, by rw [HD2.out]; show World.ownsRow _ _ _ _ _ _ _; simpa using own3, (HB.out.alloc hsz _).grown gr3 (by simp; omega) (fun j hj => (World.ownsRow.lt HO.out j hj).1)⟩
          · have HD2 : Hid (dis ((zs.take (k + 1)).map (lvl t)) = D) := by show _ = _; rw [HDs.out]; unfold addL; rw [hh]; rfl
            have HHI2 : Hid (Calls Try.prog 41 #[.slice oa D.length oc, .int .i64 lv] wr fun e w' => e = .returned (.bool true) ∧ w' = wr) := by have := HHI.out lv; rw [hh] at this; exact this
            clear HDs HM2 HN HOr HLv hvp hLv hp1 hp2 c0 c2 HHI hh
            go_wp2_with (first
              | (go_at_call 37; refine (HPP.out _ (by first | exact .inl rfl | exact .inr rfl)).mono ?_; rintro e w' ⟨rfl, hw⟩; obtain rfl := hw.symm; first | rw [hpN] | rw [hpI])
              | (go_at_call 41; refine HHI2.out.mono ?_; rintro e w' ⟨rfl, hw⟩; obtain rfl := hw.symm))
            go_roundg (gk - 1)
            case measure => have := HK.out; omega
            case rel => exact ⟨k + 1, by have := HK.out; omega, by go_num, HT.out, by rw [HD2.out]; exact HO.out, HB.out⟩
        | none =>
          have hvp : vpl t (varOf y) = none := by rw [HOr.out, hp1, hp2]; rfl
          have HT : Hid (LI = (0, 2)) := HN.out (by rw [hvp]; rfl)
          have hpI : plI t (-y) = -1 := plI_none hp2
          clear HDs HM2 HN HOr HLv hvp hp1 hp2 HHI
          go_wp2_with (first
            | (go_at_call 37; refine (HPP.out _ (by first | exact .inl rfl | exact .inr rfl)).mono ?_; rintro e w' ⟨rfl, hw⟩; obtain rfl := hw.symm; first | rw [hpN] | rw [hpI]))
          go_ret2
          exact ⟨by rw [HT.out]; rfl, HB.out⟩
    · obtain rfl : k = zs.length := by omega
      have HE : Hid (LI = (((dis (zs.map (lvl t))).length : Int), 0)) := by
        have h1 := HA.out
        rw [List.take_length] at h1
        show LI = _
        rw [← HLI2.out, h1]; rfl
      rw [List.take_length] at HO ⊢
      clear hk hdl
      go_wp2
      go_ret2
      exact ⟨by rw [HE.out]; rfl, HB.out⟩
end Go.Proofs.Ytgngdohhlhlcpaa

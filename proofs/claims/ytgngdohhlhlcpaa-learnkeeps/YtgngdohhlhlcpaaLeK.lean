/-
  depotkit.KeptEntries, walked.
  KEEP: set on app at below new trans refl start ap kept rd rds mono lt add none own nil put len pos setF setV putL putR other neV same_any row box
-/
import Derived.Test.YtgngdohhlhlcpaaLeW
import Derived.Test.YtgngdohhlhlcpaaLnB
import Derived.BigQuiet
set_option linter.unusedSimpArgs false
set_option linter.unusedVariables false
namespace Go.Proofs.Ytgngdohhlhlcpaa
open Go Go.RowKit Go.Shelf
attribute [local go_sem] Oper.semAt_some

set_option maxRecDepth 100000 in
set_option maxHeartbeats 2000000 in
theorem keptE_any (B : Nat) (x v : Value) (zs : List Int) (w : World) (ho : Own B w x (zs ++ m64)) (hr : Rd w v zs) :
    Calls Try.prog 11 #[x, v] w fun e w' => e = .returned (.bool true) ∧ ∃ n, w' = w.drewN n := by
  have hl := hr.len
  have HR : Hid (∀ W, Below w.heap.size w W → Rd W v zs) := fun W h => hr.below h
  have HO : Hid (∀ W, Below w.heap.size w W → Own B W x (zs ++ m64)) := fun W h => ho.below h
  obtain ⟨_, av, cv, rfl, -⟩ := id hr
  obtain ⟨ax, cx, e⟩ := row_slice1 ho
  rw [List.length_append, m64_len] at e
  subst e
  clear hr ho
  go_enter Try.func11, Try.ntmps11
  go_wp2
  go_loopg [5] zs.length (fun g i wr => ∃ k : Nat, k + g = zs.length ∧ i = .int .i64 k ∧ ∃ n, wr = w.drewN n)
  case atStart => exact ⟨0, by omega, rfl, 0, rfl⟩
  case round =>
  obtain ⟨k, hk, rfl, n0, hn0⟩ := hrel
  have bel : Below w.heap.size w wr := by rw [hn0]; exact below_drewN _ _
  have HK : Hid (k + gk = zs.length) := hk
  by_cases hlt : k < zs.length
  · obtain ⟨_, _, _, e, _, _, _, h2⟩ := HR.out wr bel
    cases e
    obtain ⟨b, off, e, hb, hcell⟩ := h2 (by intro h; rw [h] at hlt; simp at hlt)
    have hck := hcell k hlt
    subst e
    obtain ⟨g, cap, e, hcap, hcg⟩ := cell_app_left (HO.out wr bel) hlt
    rw [m64_len] at e hcap
    cases e
    have BE : Hid (wr = w.drewN n0) := hn0
    clear hcell h2 hk bel hn0
    generalize zs.getD k 0 = z at *
    go_wp2
    go_quiet (fail)
    go_wp2
    go_roundg (gk - 1)
    case measure => have := HK.out; omega
    case rel => exact ⟨k + 1, by have := HK.out; omega, by go_num, _, by rw [BE.out, World.drewN_drewN]⟩
  have e : k = zs.length := by omega
  subst e
  clear hk hlt HK
  have BEL : Hid (∃ n, wr = w.drewN n) := ⟨n0, hn0⟩
  clear bel hn0
  generalize wr = w2 at *
  go_wp2
  go_loopg [6] 64 (fun g i wr => ∃ k : Nat, k + g = 64 ∧ i = .int .i64 k ∧ ∃ n, wr = w.drewN n)
  case atStart => exact ⟨0, by omega, rfl, BEL.out⟩
  case round =>
  obtain ⟨k, hk, rfl, n0, hn0⟩ := hrel
  have bel : Below w.heap.size w wr := by rw [hn0]; exact below_drewN _ _
  have HK : Hid (k + gk = 64) := hk
  by_cases hlt : k < 64
  · obtain ⟨g, cap, e, hcap, hcg⟩ := cell_app_right (HO.out wr bel) (i := k) (by rw [m64_len]; exact hlt)
    rw [m64_len] at e hcap
    cases e
    rw [m64_at hlt] at hcg
    have HM : Hid (∀ W, Calls Try.prog 22 #[.int .i64 0, .int .i64 k] W fun e w' => e = .returned (.int .i64 (mrk 0 k)) ∧ w' = W) := fun W => mark_any 0 k W (by omega) (by omega)
    have BE : Hid (wr = w.drewN n0) := hn0
    clear hk bel hn0
    generalize mrk 0 k = z at *
    go_wp2
    go_quiet ((go_at_call 22; exact Calls.quiet_of_same (HM.out _)))
    go_wp2
    go_roundg (gk - 1)
    case measure => have := HK.out; omega
    case rel => exact ⟨k + 1, by have := HK.out; omega, by go_num, _, by rw [BE.out, World.drewN_drewN]⟩
  have e : k = 64 := by omega
  subst e
  clear hk hlt HK
  go_wp2
  go_ret
  first
  | exact ⟨rfl, n0, rfl⟩
  | exact ⟨rfl, n0, hn0⟩



theorem cut64 {B : Nat} {W : World} {a : Option Addr} {z : List Int} {c : Nat} (h : Own B W (.slice a (z.length + 64) c) (z ++ m64)) : Own B W (.slice a z.length c) z := by
  have h1 : W.ownsRow B 3 1 (.slice a (z.length + 64) c) (z.length + 64) ((z ++ m64).map (Value.int .i64)) := by
    have h2 := h
    unfold Own at h2
    rw [m64_app_lenE] at h2
    exact h2
  obtain ⟨g, rfl⟩ : ∃ g, a = some ⟨g, 0, none⟩ := by
    rcases h1.2 with ⟨e, e2⟩ | ⟨g, cap, cur, e, _⟩
    · omega
    · injection e with e1 _ _; exact ⟨g, e1⟩
  have h3 := own_cut h1 (m := z.length) (by omega)
  have e : ((z ++ m64).map (Value.int .i64)).take (z.length * 1) = z.map (Value.int .i64) := by
    rw [Nat.mul_one, List.map_append, List.take_left' (by simp)]
  rw [e] at h3
  exact h3
/-- what KeptEntries reads -/
structure Kt (B : Nat) (W : World) (vw vr : Value) (t : List Ent) (L : List Cls) : Prop where
  l : Le B W vw vr L (enW t L ++ mkE 64)
  ls : L.map Prod.snd = t.map (fun e => e.2.2 ++ m64)
theorem Kt.below {B : Nat} {W W' : World} {vw vr : Value} {t : List Ent} {L : List Cls} (h : Kt B W vw vr t L) (hb : Below W.heap.size W W') : Kt B W' vw vr t L := ⟨h.l.below hb, h.ls⟩
theorem Lf.k {w W : World} {vi vw vr : Value} {t : List Ent} {L : List Cls} (h : Lf w W vi vw vr t L) : Kt w.heap.size W vw vr t L := ⟨h.l, h.ls⟩
section
variable {B gw cw : Nat} {W : World} {vw vr : Value} {t : List Ent} {L : List Cls}
theorem Kt.len (h : Kt B W vw vr t L) : L.length = t.length := by
  have h1 := congrArg List.length h.ls
  simpa only [List.length_map] using h1
theorem Kt.whole (h : Kt B W vw vr t L) : (enW t L ++ mkE 64).length = t.length + 64 := by rw [List.length_append, enW_len h.len, mkE_len]
theorem Kt.vwF (h : Kt B W vw vr t L) : ∃ gw cw, vw = .slice (some ⟨gw, 0, none⟩) (t.length + 64) cw ∧ t.length + 64 ≤ cw ∧ cw ≤ maxLen ∧ gw < W.heap.size ∧ B ≤ gw := by
  have hw := h.l.w
  rw [h.whole] at hw
  rcases hw.2 with ⟨_, e2⟩ | ⟨g', cap', cur, hv, hb', hg', r1, r2, r3, r4⟩
  · omega
  · exact ⟨g', cap', hv, r1, r2, (Array.getElem?_eq_some_iff.1 hg').1, hb'⟩
theorem Kt.wcell (h : Kt B W (.slice (some ⟨gw, 0, none⟩) (t.length + 64) cw) vr t L) {k : Nat} (hk : k < t.length + 64) (x : EW) (hx : (enW t L ++ mkE 64)[k]? = some x) : W.cell? ⟨gw, k * 3, none⟩ = some (.int .i64 x.1) ∧ W.cell? ⟨gw, k * 3 + 1, none⟩ = some (.int .i64 x.2.1) ∧ W.cell? ⟨gw, k * 3 + 2, none⟩ = some x.2.2 := by
  have hl := h.whole
  have hk' : k < (enW t L ++ mkE 64).length := by omega
  have hxe : (enW t L ++ mkE 64)[k] = x := by rw [List.getElem?_eq_getElem hk'] at hx; exact Option.some.inj hx
  obtain ⟨a0, a1, a2⟩ := ecC_at (enW t L ++ mkE 64) k hk'
  rw [hxe] at a0 a1 a2
  have hw := h.l.w
  rw [hl] at hw
  exact ⟨row_cell hw a0, row_cell hw a1, row_cell hw a2⟩
/-- the k-th entry -/
theorem Kt.at (h : Kt B W (.slice (some ⟨gw, 0, none⟩) (t.length + 64) cw) vr t L) {k : Nat} (hk : k < t.length) : ∃ gr cr a c, vr = .slice (some ⟨gr, 0, none⟩) t.length cr ∧ t.length ≤ cr ∧ W.cell? ⟨gw, k * 3, none⟩ = some (.int .i64 (t.getD k e0).1) ∧ W.cell? ⟨gw, k * 3 + 1, none⟩ = some (.int .i64 (t.getD k e0).2.1) ∧ W.cell? ⟨gw, k * 3 + 2, none⟩ = some (.slice a (t.getD k e0).2.2.length c) ∧ W.cell? ⟨gr, k, none⟩ = some (.slice a ((t.getD k e0).2.2.length + 64) c) ∧ Own B W (.slice a ((t.getD k e0).2.2.length + 64) c) ((t.getD k e0).2.2 ++ m64) := by
  have l1 := h.len
  have hkL : k < L.length := by omega
  have hx : L[k] ∈ L := List.getElem_mem hkL
  have ho := h.l.r.own _ hx
  have hz : (L[k]).2 = (t.getD k e0).2.2 ++ m64 := by
    have h3 := congrArg (fun l => l[k]?) h.ls
    simp only [List.getElem?_map, List.getElem?_eq_getElem hkL, List.getElem?_eq_getElem hk, Option.map_some] at h3
    injection h3 with h3
    rw [h3, List.getD_eq_getElem?_getD, List.getElem?_eq_getElem hk]; rfl
  obtain ⟨a, c, e⟩ := own_form ho
  rw [hz, m64_app_lenE] at e
  obtain ⟨gr, cr, er, r1, -, -⟩ := row_some h.l.r.row (by omega)
  have hr := h.l.r.row
  rw [er] at hr
  have c1 := row_cell hr (j := k) (x := (L[k]).1) (by rw [List.getElem?_map, List.getElem?_eq_getElem hkL]; rfl)
  have hEk : (enW t L ++ mkE 64)[k]? = some ((t.getD k e0).1, (t.getD k e0).2.1, cutE (L[k])) := by
    rw [List.getElem?_append_left (by rw [enW_len l1]; exact hk), List.getElem?_eq_getElem (by rw [enW_len l1]; exact hk), enW_at l1 hk]
  obtain ⟨b0, b1, b2⟩ := h.wcell (by omega) _ hEk
  have ecut : cutE (L[k]) = .slice a (t.getD k e0).2.2.length c := by unfold cutE; rw [e]; simp
  simp only at b0 b1 b2
  rw [ecut] at b2
  rw [e] at c1 ho
  rw [l1] at er r1
  rw [hz] at ho
  exact ⟨gr, cr, a, c, er, r1, b0, b1, b2, c1, ho⟩
/-- the i-th mark -/
theorem Kt.mrkAt (h : Kt B W (.slice (some ⟨gw, 0, none⟩) (t.length + 64) cw) vr t L) {i : Nat} (hi : i < 64) : W.cell? ⟨gw, (t.length + i) * 3, none⟩ = some (.int .i64 (mrk 1 i)) ∧ W.cell? ⟨gw, (t.length + i) * 3 + 1, none⟩ = some (.int .i64 0) ∧ W.cell? ⟨gw, (t.length + i) * 3 + 2, none⟩ = some (.slice none 0 0) :=
  h.wcell (k := t.length + i) (by omega) (mrk 1 i, 0, .slice none 0 0) (by
    rw [List.getElem?_append_right (by rw [enW_len h.len]; omega), enW_len h.len, show t.length + i - t.length = i by omega]
    unfold mkE
    rw [List.getElem?_map, List.getElem?_range hi]; rfl)
/-- it reads the trail -/
theorem Kt.rde (h : Kt B W (.slice (some ⟨gw, 0, none⟩) (t.length + 64) cw) vr t L) (hb : t.length ≤ 1073741824) (h8 : ∀ k, k < t.length → (t.getD k e0).2.2.length * 8 ≤ 140737488351232) : RdE W (.slice (some ⟨gw, 0, none⟩) t.length cw) t := by
  obtain ⟨gw', cw', e, h1, h2, h3, _⟩ := h.vwF
  injection e with e1 e2 e3
  injection e1 with e1; injection e1 with e1
  subst e1; subst e3
  refine ⟨by omega, _, cw, rfl, by omega, h2, fun _ => ⟨gw, 0, rfl, h3, fun j hj => ?_⟩⟩
  obtain ⟨gr, cr, a, c, -, -, b0, b1, b2, -, ho⟩ := h.at hj
  exact ⟨_, by rw [Nat.zero_add]; exact b0, by rw [Nat.zero_add]; exact b1, by rw [Nat.zero_add]; exact b2, (cut64 ho).rd (h8 j hj)⟩
end
theorem m64_leftE (z : List Int) {j : Nat} (h : j < z.length) : (z ++ m64).getD j 0 = z.getD j 0 := by
  rw [List.getD_eq_getElem?_getD, List.getD_eq_getElem?_getD, List.getElem?_append_left h]
set_option maxRecDepth 100000 in
set_option maxHeartbeats 6400000 in
theorem keptEntries_any (B : Nat) (vi vw vr v : Value) (t : List Ent) (L : List Cls) (w : World) (hk : Kt B w vw vr t L) (hr : RdE w v t) (hb : t.length ≤ 1073741824) :
    Calls Try.prog 10 #[.agg #[vi, vw, vr], v] w fun e w' => e = .returned (.bool true) ∧ Below w.heap.size w w' := by
  obtain ⟨a, c, rfl, h1, h2, hAT⟩ := hr.form
  have HAT : Hid (∀ (k : Nat), k < t.length → ∃ bb off u cu, a = some ⟨bb, off, none⟩ ∧ ∀ W, Below w.heap.size w W → W.cell? ⟨bb, off + k * 3, none⟩ = some (.int .i64 (t.getD k e0).1) ∧ W.cell? ⟨bb, off + k * 3 + 1, none⟩ = some (.int .i64 (t.getD k e0).2.1) ∧ W.cell? ⟨bb, off + k * 3 + 2, none⟩ = some (.slice u (t.getD k e0).2.2.length cu) ∧ Rd W (.slice u (t.getD k e0).2.2.length cu) (t.getD k e0).2.2) := fun k hk => by
    obtain ⟨bb, off, u, e, kl, k0, k1, k2, hrd⟩ := hAT k hk
    obtain ⟨au, cu, eu, -, -, -⟩ := hrd.form
    subst eu
    exact ⟨bb, off, au, cu, e, fun W hW => ⟨(hW.cell (p := ⟨bb, off + k * 3, none⟩) kl).trans k0, (hW.cell (p := ⟨bb, off + k * 3 + 1, none⟩) kl).trans k1, (hW.cell (p := ⟨bb, off + k * 3 + 2, none⟩) kl).trans k2, hrd.below hW⟩⟩
  obtain ⟨gw, cw, ew, hcw, -, -, -⟩ := hk.vwF
  have er : ∃ ar cr, vr = .slice ar t.length cr := by
    obtain ⟨ar, cr, e⟩ := row_form hk.l.r.row
    exact ⟨ar, cr, by rw [e, hk.len]⟩
  obtain ⟨ar, cr, er⟩ := er
  subst ew; subst er
  have HL : Hid (∀ W, Below w.heap.size w W → Kt B W (.slice (some ⟨gw, 0, none⟩) (t.length + 64) cw) (.slice ar t.length cr) t L) := fun W hW => hk.below hW
  have HX : Hid (Bt3 (w.alloc (.cells #[vi, .slice (some ⟨gw, 0, none⟩) (t.length + 64) cw, .slice ar t.length cr] 28)) w.heap.size 28 vi (.slice (some ⟨gw, 0, none⟩) (t.length + 64) cw) (.slice ar t.length cr)) := World.alloc_heap_new w _
  have HB0 : Hid (Below w.heap.size w (w.alloc (.cells #[vi, .slice (some ⟨gw, 0, none⟩) (t.length + 64) cw, .slice ar t.length cr] 28))) := below_box _ _
  have x1 := HX.out.c1
  have x2 := HX.out.c2
  clear hr hAT hk
  generalize hCL : t.length = CL at *
  have HCL : Hid (t.length = CL) := hCL
  clear hCL
  go_enter Try.func10, Try.ntmps10
  go_wp2
  generalize w.alloc (.cells #[vi, .slice (some ⟨gw, 0, none⟩) (CL + 64) cw, .slice ar CL cr] 28) = W0 at *
  clear x1 x2
  go_loopg [5, 6, 7] CL (fun q i' r' j' wr => ∃ k : Nat, k + q = CL ∧ i' = .int .i64 k ∧ Below W0.heap.size W0 wr)
  case atStart => exact ⟨0, by omega, rfl, Below.refl _ _⟩
  case round =>
    obtain ⟨k, hk, rfl, hbw⟩ := hrel
    have HK : Hid (k + gk = CL) := hk
    have HW : Hid (Below W0.heap.size W0 wr ∧ Below w.heap.size w wr) := ⟨hbw, Below.step HB0.out hbw⟩
    have x1 := (HX.out.below hbw).c1
    have x2 := (HX.out.below hbw).c2
    clear hk hbw
    by_cases hlt : k < CL
    · have hltc : k < t.length := by rw [HCL.out]; exact hlt
      obtain ⟨bb, off, au, cu, rfl, hcr⟩ := HAT.out k hlt
      obtain ⟨gr, cr', a1, c1, e2, h5, w0, w1, w2, c3, ho⟩ := (show Kt B wr (.slice (some ⟨gw, 0, none⟩) (t.length + 64) cw) (.slice ar t.length cr) t L by rw [HCL.out]; exact HL.out wr HW.out.2).at hltc
      rw [HCL.out] at e2 h5
      injection e2 with e2 _ e2c
      subst e2; subst e2c
      have HRr : Hid (Rd wr (.slice au (t.getD k e0).2.2.length cu) (t.getD k e0).2.2) := (hcr wr HW.out.2).2.2.2
      have HKe : Hid (∀ W n, Below wr.heap.size wr W → Calls Try.prog 11 #[.slice a1 ((t.getD k e0).2.2.length + 64) c1, .slice au (t.getD k e0).2.2.length cu] (W.drewN n) fun e w' => e = .returned (.bool true) ∧ ∃ m, w' = (W.drewN n).drewN m) := fun W n hW => keptE_any B _ _ (t.getD k e0).2.2 (W.drewN n) (ho.below (Below.step hW (below_drewN _ _))) (HRr.out.below (Below.step hW (below_drewN _ _)))
      have HCo : Hid (∀ j, j < (t.getD k e0).2.2.length → ∃ g, a1 = some ⟨g, 0, none⟩ ∧ (t.getD k e0).2.2.length + 64 ≤ c1 ∧ ∀ W, Below wr.heap.size wr W → W.cell? ⟨g, j, none⟩ = some (.int .i64 ((t.getD k e0).2.2.getD j 0))) := fun j hj => by
        obtain ⟨g, cc, e, h6, h7⟩ := own_at ho (i := j) (by rw [m64_app_lenE]; omega)
        rw [m64_app_lenE] at e h6
        injection e with e _ e3
        subst e; subst e3
        rw [m64_leftE _ hj] at h7
        exact ⟨g, rfl, h6, fun W hW => (hW.cell (p := ⟨g, j, none⟩) (World.block_lt_of_cell? wr _ h7)).trans h7⟩
      have HCr : Hid (∀ j, j < (t.getD k e0).2.2.length → ∃ g o, au = some ⟨g, o, none⟩ ∧ ∀ W, Below wr.heap.size wr W → W.cell? ⟨g, o + j, none⟩ = some (.int .i64 ((t.getD k e0).2.2.getD j 0))) := fun j hj => by
        obtain ⟨a9, c9, e9, -, -, h9⟩ := HRr.out.form
        injection e9 with e9 _ _
        subst e9
        obtain ⟨g, o, e, h7⟩ := h9 j hj
        exact ⟨g, o, e, fun W hW => (hW.cell (p := ⟨g, o + j, none⟩) (World.block_lt_of_cell? wr _ h7)).trans h7⟩
      have HKc : Hid (∀ W, Below w.heap.size w W → W.cell? ⟨bb, off + k * 3, none⟩ = some (.int .i64 (t.getD k e0).1) ∧ W.cell? ⟨bb, off + k * 3 + 1, none⟩ = some (.int .i64 (t.getD k e0).2.1) ∧ W.cell? ⟨bb, off + k * 3 + 2, none⟩ = some (.slice au (t.getD k e0).2.2.length cu)) := fun W hW => ⟨(hcr W hW).1, (hcr W hW).2.1, (hcr W hW).2.2.1⟩
      have HC3 : Hid (W0.heap.size ≤ wr.heap.size ∧ ∀ W, Below wr.heap.size wr W → W.cell? ⟨gr, k, none⟩ = some (.slice a1 ((t.getD k e0).2.2.length + 64) c1)) := ⟨HW.out.1.size, fun W hW => (hW.cell (p := ⟨gr, k, none⟩) (World.block_lt_of_cell? wr _ c3)).trans c3⟩
      have HLT : Hid (k < CL) := hlt
      have hzl := HRr.out.len
      clear hcr ho HRr
      generalize (t.getD k e0).2.2 = z at *
      generalize (t.getD k e0).2.1 = lv at *
      generalize (t.getD k e0).1 = lt at *
      go_upto_region 7 with fail
      have HE : Hid (∀ W, Below (wr.alloc (.cells #[.int .i64 lt, .int .i64 lv, .slice a1 z.length c1] 47)).heap.size (wr.alloc (.cells #[.int .i64 lt, .int .i64 lv, .slice a1 z.length c1] 47)) W → Below wr.heap.size wr W ∧ W.cell? ⟨wr.heap.size, 0, none⟩ = some (.int .i64 lt) ∧ W.cell? ⟨wr.heap.size, 1, none⟩ = some (.int .i64 lv) ∧ W.cell? ⟨wr.heap.size, 2, none⟩ = some (.slice a1 z.length c1) ∧ W.cell? ⟨w.heap.size, 1, none⟩ = some (.slice (some ⟨gw, 0, none⟩) (CL + 64) cw) ∧ W.cell? ⟨w.heap.size, 2, none⟩ = some (.slice (some ⟨gr, 0, none⟩) CL cr) ∧ Below W0.heap.size W0 W) := fun W hW => by
        have hb9 : Below wr.heap.size wr W := Below.step (below_box _ _) hW
        have hb8 : Below W0.heap.size W0 W := Below.step HW.out.1 hb9
        exact ⟨hb9, box_at hW rfl, box_at hW rfl, box_at hW rfl, (HX.out.below hb8).c1, (HX.out.below hb8).c2, hb8⟩
      clear x1 x2 w0 w1 w2 c3
      generalize wr.alloc (.cells #[.int .i64 lt, .int .i64 lv, .slice a1 z.length c1] 47) = we at *
      obtain ⟨hbe, d0, d1, d2, x1, x2, -⟩ := HE.out we (Below.refl _ _)
      have c3 := HC3.out.2 we hbe
      obtain ⟨kc0, kc1, kc2⟩ := HKc.out we (Below.step HW.out.2 hbe)
      have HKe2 : Hid (∀ n, Calls Try.prog 11 #[.slice a1 (z.length + 64) c1, .slice au z.length cu] (we.drewN n) fun e w' => e = .returned (.bool true) ∧ ∃ m, w' = (we.drewN n).drewN m) := fun n => HKe.out we n hbe
      clear hbe
      go_quiet ((go_at_call 11; exact Calls.quiet_of (HKe2.out _)))
      go_wp2
      rename_i nq
      clear d0 d1 x1 x2 c3 kc0 kc1 kc2
      generalize gk = G at *
      go_loopg [7] z.length (fun q j' wx => ∃ j : Nat, j + q = z.length ∧ j' = .int .i64 j ∧ Below we.heap.size we wx)
      case atStart => exact ⟨0, by omega, rfl, below_drewN _ _⟩
      case round =>
        obtain ⟨j, hj, rfl, hbx⟩ := hrel
        have HJ : Hid (j + gk = z.length) := hj
        have HBx : Hid (Below we.heap.size we wr) := hbx
        obtain ⟨hbe, _, _, d2, _, _, hb0⟩ := HE.out wr hbx
        have HB0' : Hid (Below W0.heap.size W0 wr) := hb0
        by_cases hjl : j < z.length
        · obtain ⟨g1, rfl, h6, t1⟩ := HCo.out j hjl
          obtain ⟨g2, o2, rfl, t2⟩ := HCr.out j hjl
          have k1 := t1 wr hbe
          have k2 := t2 wr hbe
          obtain ⟨-, -, k3⟩ := HKc.out wr (Below.step HW.out.2 hbe)
          have HJL : Hid (j < z.length) := hjl
          clear t1 t2 hbx hj hbe hb0
          generalize z.getD j 0 = y at *
          go_wp2
          go_quiet (fail)
          go_wp2
          go_roundg (gk - 1)
          case measure => have := HJ.out; have := HJL.out; omega
          case rel => exact ⟨j + 1, by have := HJ.out; have := HJL.out; omega, by go_num, HBx.out.trans ((below_drewN _ _).mono HBx.out.size)⟩
        · clear hbx hj hbe hb0
          go_wp2
          go_roundg (G - 1)
          case measure => have := HK.out; have := HLT.out; omega
          case rel => exact ⟨k + 1, by have := HK.out; have := HLT.out; omega, by go_num, HB0'.out⟩
    · obtain rfl : k = CL := by have := HK.out; omega
      clear x1 x2
      go_wp2
      generalize wr = w5 at *
      generalize gk = G at *
      go_loopg [8, 9] 64 (fun q i' r' wx => ∃ i : Nat, i + q = 64 ∧ i' = .int .i64 i ∧ Below W0.heap.size W0 wx)
      case atStart => exact ⟨0, by omega, rfl, HW.out.1⟩
      case round =>
        obtain ⟨i, hi, rfl, hbx⟩ := hrel
        have HJ : Hid (i + gk = 64) := hi
        have HBx : Hid (Below W0.heap.size W0 wr ∧ Below w.heap.size w wr) := ⟨hbx, Below.step HB0.out hbx⟩
        by_cases hil : i < 64
        · obtain ⟨m0, m1, m2⟩ := (show Kt B wr (.slice (some ⟨gw, 0, none⟩) (t.length + 64) cw) (.slice ar t.length cr) t L by rw [HCL.out]; exact HL.out wr HBx.out.2).mrkAt hil
          rw [HCL.out] at m0 m1 m2
          have x1 := (HX.out.below hbx).c1
          have HM : Hid (∀ W, Calls Try.prog 22 #[.int .i64 1, .int .i64 i] W fun e w' => e = .returned (.int .i64 (mrk 1 i)) ∧ w' = W) := fun W => mark_any 1 i W (by omega) (by omega)
          have HIL : Hid (i < 64) := hil
          clear hbx hi
          generalize mrk 1 i = mk at *
          go_upto_region 18 with fail
          have HE : Hid (∀ W, Below (wr.alloc (.cells #[.int .i64 mk, .int .i64 0, .slice none 0 0] 47)).heap.size (wr.alloc (.cells #[.int .i64 mk, .int .i64 0, .slice none 0 0] 47)) W → W.cell? ⟨wr.heap.size, 0, none⟩ = some (.int .i64 mk) ∧ W.cell? ⟨wr.heap.size, 1, none⟩ = some (.int .i64 0) ∧ W.cell? ⟨wr.heap.size, 2, none⟩ = some (.slice none 0 0) ∧ Below W0.heap.size W0 W) := fun W hW => ⟨box_at hW rfl, box_at hW rfl, box_at hW rfl, Below.step HBx.out.1 (Below.step (below_box _ _) hW)⟩
          clear m0 m1 m2 x1
          generalize wr.alloc (.cells #[.int .i64 mk, .int .i64 0, .slice none 0 0] 47) = we at *
          obtain ⟨d0, d1, d2, -⟩ := HE.out we (Below.refl _ _)
          go_quiet ((go_at_call 22; exact Calls.quiet_of_same (HM.out _)))
          go_wp2
          go_roundg (gk - 1)
          case measure => have := HJ.out; have := HIL.out; omega
          case rel => exact ⟨i + 1, by have := HJ.out; have := HIL.out; omega, by go_num, (HE.out _ (below_drewN _ _)).2.2.2⟩
        · clear hbx hi
          go_wp2
          go_ret
          exact ⟨rfl, HBx.out.2⟩
end Go.Proofs.Ytgngdohhlhlcpaa

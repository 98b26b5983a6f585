/-
  learn: read.
  KEEP: len below nil form rd mono one more grown lt size cell some none of ofNat add out step row get at mk new made look put del kept drew alloc has same other map rde take lit lev lstB pre ws cells bnd on start app set
-/
import Derived.Test.YtgngdohhlhlcpaaLnB
set_option linter.unusedSimpArgs false
set_option linter.unusedVariables false
namespace Go.Proofs.Ytgngdohhlhlcpaa
open Go Go.RowKit
theorem ret_rdg {fn : Func} {p u : Tmp} {tmps : Array Value} {W : World} {D : Nat} {x y : Value} (h : fn.results = #[.cell p 51, .tmp u]) (hp : tmps.getD p undef = .pointer (some ⟨D, 0, none⟩)) (hb : Bx2 W D 51 x y) :
    (results fn tmps).run Try.prog W = .ok (.tuple #[.agg #[x, y], tmps.getD u undef]) W := by
  have c0 := hb.c0
  have c1 := hb.c1
  rw [results_cell_tmp h, hp]
  simp [go_sem, c0, c1]
theorem below_set15 {B : Nat} {w W : World} {D o : Nat} {u : Value} (h : Below B w W) (hD : B ≤ D) (hs : B ≤ W.heap.size) : Below B w (W.setCell ⟨D, o, none⟩ u) :=
  h.grown (grown_set W ⟨D, o, none⟩ u) hs (fun k hk => by cases hk; exact hD)
theorem Mi.set {W : World} {g n D o : Nat} {T : Int → Option Nat} {u : Value} (h : Mi W g n T) (hne : g ≠ D) : Mi (W.setCell ⟨D, o, none⟩ u) g n T := h.kept ((grown_set W ⟨D, o, none⟩ u).block g h.lt (by simpa using hne))
/-- the reading's box and its map, as they begin -/
theorem read_start (w : World) (v : Value) : ∃ w0, ((w.alloc (.cells #[v, .map (some (w.heap.size + 1))] 51)).alloc (.map #[] 0)) = w0 ∧ Bx2 w0 w.heap.size 51 v (.map (some (w.heap.size + 1))) ∧ Mi w0 (w.heap.size + 1) 0 (vpl []) ∧ Below w.heap.size w w0 := by
  have h2 : Mi ((w.alloc (.cells #[v, .map (some (w.heap.size + 1))] 51)).alloc (.map #[] 0)) (w.heap.size + 1) 0 (fun _ => none) := by
    have := Mi.made (w.alloc (.cells #[v, .map (some (w.heap.size + 1))] 51))
    rw [World.size_alloc] at this
    exact this
  exact ⟨_, rfl, (Bx2.new w 51 _ _).below (below_box _ _), h2, Below.step (below_box _ _) (below_box _ _)⟩
/-- the state of read's loop -/
structure RdL (w wr : World) (X : Nat) (a : Option Addr) (t : List Ent) (c k : Nat) : Prop where
  box : Bx2 wr X 51 (.slice a t.length c) (.map (some (X + 1)))
  rz : Rz wr a t c (X + 1) (t.take k)
  bel : Below X w wr
  rd0 : RdE w (.slice a t.length c) t
  eX : w.heap.size = X
/-- one entry more -/
theorem RdL.more {w w2 : World} {X : Nat} {a : Option Addr} {t : List Ent} {c k Z : Nat} {v : Int} {u : Value} (h : RdL w w2 X a t c k) (hk : k < t.length) (hws : Ws (t.take (k + 1))) (hv0 : 0 ≤ v) (hv1 : v ≤ 1048576) (hvp : ∀ y, vpl (t.take (k + 1)) y = if y = v then some k else vpl (t.take k) y) (hZ : X + 1 < Z) (hZl : Z < w2.heap.size) (hu : w2.cell? ⟨Z, 1, none⟩ = some u) :
    ∃ w4, (Instr.mapUpdate 49 (.map (some (X + 1))) (.int .i64 v) (.int .i64 (k : Int))).run Try.prog w2.drew = .ok () w4 ∧ RdL w w4 X a t c (k + 1) ∧ w4.cell? ⟨Z, 1, none⟩ = some u := by
  have hl := h.rz.bnd
  have hd : Below w2.heap.size w2 w2.drew := (Below.refl _ _).drew
  have hlk : (t.take k).length = k := by simp; omega
  obtain ⟨w4, r1, r2, r3⟩ := (h.rz.map.below hd).put (x := v) (by omega) (by omega) (by rw [hlk]; unfold maxLen; omega) k (by omega)
  have hb4 : Below X w w4 := h.bel.drew.grown r3 (by have := h.box.lt; simp; omega) (fun k hk => by cases hk; omega)
  have e1 : (t.take (k + 1)).length = (t.take k).length + 1 := by simp; omega
  have e2 : upI (vpl (t.take k)) v k = vpl (t.take (k + 1)) := by funext y; rw [hvp y]; rfl
  refine ⟨w4, r1, ⟨(h.box.below hd).kept r3 (by simp), ⟨h.rd0.below (by rw [h.eX]; exact hb4), by rw [e1, ← e2]; exact r2, ⟨k + 1, by omega, rfl⟩, hws⟩, hb4, h.rd0, h.eX⟩, ?_⟩
  exact World.grownBy.cell r3 (a := ⟨Z, 1, none⟩) (show w2.drew.cell? ⟨Z, 1, none⟩ = some u from hu) (by simp; omega)
set_option maxHeartbeats 3200000 in
theorem read_any (v : Value) (t : List Ent) (w : World) (hr : RdE w v t) :
    Calls Try.prog 30 #[v] w fun e w' => ∃ xa xn xc ym, e = .returned (.tuple #[.agg #[.slice xa xn xc, .map ym], .bool (frmE t)]) ∧ Below w.heap.size w w' ∧ (frmE t = true → ∃ g, v = .slice xa t.length xc ∧ xn = t.length ∧ ym = some g ∧ Rz w' xa t xc g t ∧ w.heap.size ≤ g) := by
  have hl := hr.len
  have HR : Hid (RdE w v t) := hr
  obtain ⟨a, c, rfl, hc, hm, _⟩ := hr.form
  obtain ⟨w0, hw0, hbx, hmi, hbel⟩ := read_start w (.slice a t.length c)
  obtain ⟨X, hX⟩ : ∃ X, w.heap.size = X := ⟨_, rfl⟩
  rw [hX] at hw0 hbx hmi hbel ⊢
  have HS : Hid (RdL w w0 X a t c 0) := ⟨hbx, ⟨HR.out.below (by rw [hX]; exact hbel), hmi, ⟨0, by omega, rfl⟩, Ws.nil⟩, hbel, HR.out, hX⟩
  clear hr hbx hmi hbel
  have hX1 : (w.alloc (.cells #[.slice none 0 0, .map none] 51)).heap.size = X + 1 := by simp [hX]
  obtain ⟨mn, hmn⟩ : ∃ mn, (if (1048576 : Int) < (t.length : Int) then (1048576 : Int) else (t.length : Int)) = mn := ⟨_, rfl⟩
  have hmin : ∀ W : World, (Builtin.min_ #[3, 3] 3 #[.int .i64 (t.length : Int), .int .i64 1048576]).run Try.prog W = .ok (.int .i64 mn) W := fun W => by rw [← hmn]; simp [Builtin.min_, Builtin.min2]
  have hmake : ∀ W : World, (Instr.makeMap 49 (some (.int .i64 mn))).run Try.prog W = .ok (.map (some W.heap.size)) (W.alloc (.map #[] 0)) := fun W => by simp [Instr.makeMap, run_underlying Try.underlying49, asInt, asIntOf, Result.andThen]
  clear hmn
  go_enter Try.func30, Try.ntmps30
  go_upto_region 2 with fail
  clear hw0 hX1 hmin hmake
  go_wp2_with fail
  go_loopg [4, 15] t.length (fun g l i wr => ∃ k : Nat, k + g = t.length ∧ l = .int .i64 (lstL (t.take k)) ∧ i = .int .i64 k ∧ Hid (RdL w wr X a t c k))
  case atStart => exact ⟨0, by omega, rfl, rfl, HS.out⟩
  case round =>
    obtain ⟨k, hk, rfl, rfl, HL⟩ := hrel
    have HK : Hid (k + gk = t.length) := hk
    have b0 := HL.out.box.c0
    have b1 := HL.out.box.c1
    have f0 := HL.out.box.f0
    have f1 := HL.out.box.f1
    have hXl := HL.out.box.lt
    by_cases hlt : k < t.length
    · obtain ⟨b, off, u, rfl, hbl, c0, c1, c2, hr2⟩ := HL.out.rz.cells hlt
      have hl2 := hr2.len
      have HNo : Hid (okE (t.take k) (t.getD k e0) = false → frmE t = false) := frmE_no hlt
      have HYes : Hid (okE (t.take k) (t.getD k e0) = true → Ws (t.take (k + 1)) ∧ (∀ y, vpl (t.take (k + 1)) y = if y = varOf (t.getD k e0).1 then some k else vpl (t.take k) y)) := fun h => ⟨(ws_snoc hlt).2 ⟨HL.out.rz.ws, h⟩, vpl_more hlt (okE_parts h).2.1⟩
      have hls : lstL (t.take (k + 1)) = (t.getD k e0).2.1 := lstL_take hlt
      have HLs : Hid (lstL (t.take (k + 1)) = (t.getD k e0).2.1) := hls
      obtain ⟨q, hq⟩ : ∃ q, lstL (t.take k) = q := ⟨_, rfl⟩
      rw [hq]
      have HFi : Hid (∀ W, Below wr.heap.size wr W → Calls Try.prog 54 #[rV (some ⟨b, off, none⟩) t.length c (X + 1), .agg #[.int .i64 (t.getD k e0).1, .int .i64 (t.getD k e0).2.1, u], .int .i64 q] W fun e w' => e = .returned (.bool (okE (t.take k) (t.getD k e0))) ∧ Below W.heap.size W w') := fun W hW => l15fits_any _ t _ c (X + 1) _ _ q u _ W (HL.out.rz.below hW) (hr2.below hW) hq.symm
      obtain ⟨ua, uc, rfl, _⟩ := hr2.form
      clear hk hls hq hr2
      generalize okE (t.take k) (t.getD k e0) = ok at *
      obtain ⟨en, hen⟩ : ∃ en, t.getD k e0 = en := ⟨_, rfl⟩
      rw [hen] at HYes HLs HFi c0 c1 c2
      clear hen
      obtain ⟨lt, lv, zs⟩ := en
      dsimp only at *
      have hbz := below_box wr (.cells #[.int .i64 lt, .int .i64 lv, .slice ua zs.length uc] 47)
      obtain ⟨w1, hw1⟩ : ∃ w1, wr.alloc (.cells #[.int .i64 lt, .int .i64 lv, .slice ua zs.length uc] 47) = w1 := ⟨_, rfl⟩
      obtain ⟨Z, hZ⟩ : ∃ Z, wr.heap.size = Z := ⟨_, rfl⟩
      have HB1 : Hid (Below wr.heap.size wr w1) := by rw [← hw1]; exact hbz
      have z0 : w1.cell? ⟨Z, 0, none⟩ = some (.int .i64 lt) := by rw [← hZ, ← hw1]; exact box_at (Below.refl _ _) rfl
      have z1 : w1.cell? ⟨Z, 1, none⟩ = some (.int .i64 lv) := by rw [← hZ, ← hw1]; exact box_at (Below.refl _ _) rfl
      have z2 : w1.cell? ⟨Z, 2, none⟩ = some (.slice ua zs.length uc) := by rw [← hZ, ← hw1]; exact box_at (Below.refl _ _) rfl
      have HZ : Hid (∀ W, Below w1.heap.size w1 W → Below wr.heap.size wr W ∧ W.cell? ⟨Z, 0, none⟩ = some (.int .i64 lt) ∧ W.cell? ⟨Z, 1, none⟩ = some (.int .i64 lv) ∧ RdL w W X (some ⟨b, off, none⟩) t c k ∧ Z < W.heap.size) := fun W hW => by
        have h1 : Below wr.heap.size wr W := Below.step HB1.out hW
        have hZl : Z < w1.heap.size := by rw [← hZ, ← hw1]; simp
        exact ⟨h1, (hW.cell (p := ⟨Z, 0, none⟩) hZl).trans z0, (hW.cell (p := ⟨Z, 1, none⟩) hZl).trans z1, ⟨HL.out.box.below h1, HL.out.rz.below h1, HL.out.bel.trans (h1.mono (Nat.le_of_lt hXl)), HL.out.rd0, HL.out.eX⟩, Nat.lt_of_lt_of_le hZl hW.size⟩
      have HFi1 : Hid (Calls Try.prog 54 #[rV (some ⟨b, off, none⟩) t.length c (X + 1), .agg #[.int .i64 lt, .int .i64 lv, .slice ua zs.length uc], .int .i64 q] w1 fun e w' => e = .returned (.bool ok) ∧ Below w1.heap.size w1 w') := HFi.out w1 HB1.out
      have g0 : w1.cell? ⟨X, 0, none⟩ = some (.slice (some ⟨b, off, none⟩) t.length c) := (HZ.out w1 (Below.refl _ _)).2.2.2.1.box.c0
      have g1 : w1.cell? ⟨X, 1, none⟩ = some (.map (some (X + 1))) := (HZ.out w1 (Below.refl _ _)).2.2.2.1.box.c1
      clear hbz HFi
      go_upto_region 6 with fail
      have HX : Hid (∀ W, Below w1.heap.size w1 W → W.frozen? ⟨X, 0, none⟩ = false ∧ W.frozen? ⟨X, 1, none⟩ = false ∧ W.cell? ⟨X, 0, none⟩ = some (.slice (some ⟨b, off, none⟩) t.length c) ∧ W.cell? ⟨X, 1, none⟩ = some (.map (some (X + 1))) ∧ X < W.heap.size) := fun W hW => by
        have h := (HZ.out W hW).2.2.2.1.box
        exact ⟨h.f0, h.f1, h.c0, h.c1, h.lt⟩
      clear b0 b1 f0 f1 hXl c0 c1 c2 hbl
      cases ok
      · have HF : Hid (frmE t = false) := HNo.out rfl
        clear HNo HYes
        go_wp2_with (go_at_call 54; refine HFi1.out.mono ?_; rintro e w2 ⟨rfl, bE⟩; have HE2 : Hid (RdL w w2 X (some ⟨b, off, none⟩) t c k) := (HZ.out w2 bE).2.2.2.1; obtain ⟨f0', f1', _, _, hXl'⟩ := HX.out w2 bE; clear bE)
        refine bodyPost_ret (ret_rdg rfl rfl ((HE2.out.box.set0 _).set1 _)) rfl ?_
        refine ⟨_, _, _, _, by rw [HF.out]; rfl, ?_, fun h => by rw [HF.out] at h; cases h⟩
        exact below_set15 (below_set15 HE2.out.bel (Nat.le_refl _) (Nat.le_of_lt HE2.out.box.lt)) (Nat.le_refl _) (Nat.le_of_lt (HE2.out.box.set0 _).lt)
      · have HW : Hid (Ws (t.take (k + 1)) ∧ (∀ y, vpl (t.take (k + 1)) y = if y = varOf lt then some k else vpl (t.take k) y)) := HYes.out rfl
        clear HNo HYes
        go_upto_region 8 with (go_at_call 54; refine HFi1.out.mono ?_; rintro e w2 ⟨rfl, bE⟩; have HE2 : Hid (RdL w w2 X (some ⟨b, off, none⟩) t c k ∧ w2.cell? ⟨Z, 0, none⟩ = some (.int .i64 lt) ∧ w2.cell? ⟨Z, 1, none⟩ = some (.int .i64 lv)) := ⟨(HZ.out w2 bE).2.2.2.1, (HZ.out w2 bE).2.1, (HZ.out w2 bE).2.2.1⟩; obtain ⟨f0', f1', p0, p1, hXl'⟩ := HX.out w2 bE; obtain ⟨_, p2, p3, _, hZl⟩ := HZ.out w2 bE; clear bE)
        have hvl := varOf_le lt
        obtain ⟨w4, hrun, hm4, hz4⟩ := HE2.out.1.more hlt HW.out.1 hvl.1 hvl.2 HW.out.2 (Z := Z) (by rw [← hZ]; exact HL.out.rz.map.lt) hZl HE2.out.2.2
        have HM4 : Hid (RdL w w4 X (some ⟨b, off, none⟩) t c (k + 1)) := hm4
        obtain ⟨v, hve⟩ : ∃ v, varOf lt = v := ⟨_, rfl⟩
        have HV : Hid (∀ W : World, Calls Try.prog 32 #[.int .i64 lt] W fun e w' => e = .returned (.int .i64 v) ∧ w' = W) := fun W => by rw [← hve]; exact var_any _ _
        rw [hve] at hrun
        clear hvl hve hm4
        go_region_law (go_simp; go_at_call 32; refine (HV.out _).mono ?_; intro e w9 hh; rw [hh.1, hh.2]; clear hh e w9; dsimp only)
        all_goals
          go_wp2_with fail
          go_roundg (gk - 1)
          case measure => have := HK.out; omega
          case rel => exact ⟨k + 1, by have := HK.out; omega, by rw [HLs.out], by go_num, HM4.out⟩
    · obtain rfl : k = t.length := by omega
      have HE : Hid (frmE t = true) := HL.out.rz.ws.end
      have HF : Hid (RdL w wr X a t c t.length) := HL.out
      clear hk
      go_wp2
      refine bodyPost_ret (ret_rdg rfl rfl ((HL.out.box.set0 _).set1 _)) rfl ?_
      have hb2 : Below X w ((wr.setCell ⟨X, 0, none⟩ (.slice a t.length c)).setCell ⟨X, 1, none⟩ (.map (some (X + 1)))) := below_set15 (below_set15 HL.out.bel (Nat.le_refl _) (Nat.le_of_lt HL.out.box.lt)) (Nat.le_refl _) (Nat.le_of_lt (HL.out.box.set0 _).lt)
      refine ⟨_, _, _, _, by rw [HE.out]; rfl, hb2, fun _ => ⟨X + 1, rfl, rfl, rfl, ?_, by omega⟩⟩
      have hz := HL.out.rz
      rw [List.take_length] at hz
      exact ⟨HL.out.rd0.below (by rw [HL.out.eX]; exact hb2), (hz.map.set (by omega)).set (by omega), hz.pre, hz.ws⟩
end Go.Proofs.Ytgngdohhlhlcpaa

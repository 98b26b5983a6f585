/-
  depotkit.OverEntries, walked.
  KEEP: set on app at below new trans refl start ap kept rd rds mono lt add none own nil put len pos setF setV putL putR other neV same_any row box
-/
import Derived.Test.YtgngdohhlhlcpaaLeK
set_option linter.unusedSimpArgs false
set_option linter.unusedVariables false
namespace Go.Proofs.Ytgngdohhlhlcpaa
open Go Go.RowKit Go.Shelf

/-- a step that leaves all but a set of blocks -/
structure Fx (Q : Nat → Prop) (w W : World) : Prop where
  os : W.os = w.os
  tape : W.tape = w.tape
  output : W.output = w.output
  size : w.heap.size ≤ W.heap.size
  block : ∀ k, k < w.heap.size → ¬ Q k → W.heap[k]? = w.heap[k]?
theorem Fx.refl (Q : Nat → Prop) (w : World) : Fx Q w w := ⟨rfl, rfl, rfl, Nat.le_refl _, fun _ _ _ => rfl⟩
theorem Fx.below {Q : Nat → Prop} {w W W' : World} (h : Fx Q w W) (hb : Below W.heap.size W W') : Fx Q w W' := ⟨hb.os.trans h.os, hb.tape.trans h.tape, hb.output.trans h.output, Nat.le_trans h.size hb.size, fun k hk hq => (hb.block k (Nat.lt_of_lt_of_le hk h.size)).trans (h.block k hk hq)⟩
theorem Fx.grown {Q : Nat → Prop} {w W W' : World} {row : Option Nat} (h : Fx Q w W) (hg : W.grownBy W' row) (hq : ∀ g, row = some g → Q g) : Fx Q w W' := ⟨hg.os.trans h.os, hg.tape.trans h.tape, hg.output.trans h.output, Nat.le_trans h.size hg.size, fun k hk hn => (hg.block k (Nat.lt_of_lt_of_le hk h.size) (fun e => hn (hq k e.symm))).trans (h.block k hk hn)⟩
/-- the blocks of a trail that is lent -/
def Lwn (vw : Value) (L : List Cls) (k : Nat) : Prop := some k = vw.ownBlock ∨ ∃ x ∈ L, some k = x.1.ownBlock
structure Ov1 (B : Nat) (w W : World) (D : Nat) (vi vw vr : Value) (L : List Cls) (N : Nat) (ws : List Value) : Prop where
  x : Bt3 W D 28 vi vw vr
  r : W.ownsRow B 23 1 vr L.length (L.map Prod.fst)
  wh : W.ownsRow B 47 3 vw N ws
  o : ∀ (j : Nat) (hj : j < L.length), ∃ Z, Z.length = (L[j]).2.length ∧ Own B W (L[j]).1 Z
  f : Fx (Lwn vw L) w W
theorem Ov1.over {B D N : Nat} {w W W' : World} {vi vw vr : Value} {L : List Cls} {ws : List Value} {k : Nat} {Z X : List Int} (h : Ov1 B w W D vi vw vr L N ws) (hap : ApartC L) (hk : k < L.length) (ho : Own B W (L[k]).1 X) (hz : Z.length = (L[k]).2.length) (hz' : Own B W' (L[k]).1 Z) (hg : W.grownBy W' (L[k]).1.ownBlock) : Ov1 B w W' D vi vw vr L N ws := by
  refine ⟨h.x.kept hg (h.x.not_row (by decide) ho), row_apart (by decide) h.r ho hg, row_apart (by decide) h.wh ho hg, fun j hj => ?_, h.f.grown hg fun g e => .inr ⟨L[k], List.getElem_mem hk, e.symm⟩⟩
  by_cases e : j = k
  · subst e; exact ⟨Z, hz, hz'⟩
  · obtain ⟨Y, h1, h2⟩ := h.o j hj
    refine ⟨Y, h1, World.ownsRow.kept h2 hg ?_⟩
    have hp := List.pairwise_iff_getElem.1 hap
    rcases Nat.lt_or_gt_of_ne e with h3 | h3
    · exact hp j k hj hk h3
    · rcases hp k j hk hj h3 with h4 | h4
      · cases hv : (L[j]).1.ownBlock with
        | none => exact .inl rfl
        | some g => exact .inr (by rw [h4]; simp)
      · exact .inr (Ne.symm h4)
/-- the entries that are written -/
def ovE (k : Nat) : Ent := (1, (k : Int) % 2, [])
def ovT (n : Nat) : List Ent := (List.range n).map ovE
theorem ovT_len (n : Nat) : (ovT n).length = n := by simp [ovT]
theorem ovT_at {n k : Nat} (h : k < n) : (ovT n).getD k e0 = ovE k := by
  unfold ovT
  rw [List.getD_eq_getElem?_getD, List.getElem?_map, List.getElem?_range h]; rfl
structure Ow1 (B : Nat) (w W : World) (D : Nat) (vi vw vr : Value) (L : List Cls) (N k : Nat) (xs : List Value) : Prop where
  x : Bt3 W D 28 vi vw vr
  wh : W.ownsRow B 47 3 vw N xs
  o : ∀ j, j < k → xs[j * 3]? = some (.int .i64 1) ∧ xs[j * 3 + 1]? = some (.int .i64 ((j : Int) % 2)) ∧ xs[j * 3 + 2]? = some (.slice none 0 0)
  f : Fx (Lwn vw L) w W
theorem Ow1.step {B D N : Nat} {w W : World} {vi vr : Value} {L : List Cls} {k gw cw : Nat} {xs : List Value} (h : Ow1 B w W D vi (.slice (some ⟨gw, 0, none⟩) N cw) vr L N k xs) (hk : k < N) :
    Ow1 B w (((W.setCell ⟨gw, k * 3, none⟩ (.int .i64 1)).setCell ⟨gw, k * 3 + 1, none⟩ (.int .i64 ((k : Int) % 2))).setCell ⟨gw, k * 3 + 2, none⟩ (.slice none 0 0)) D vi (.slice (some ⟨gw, 0, none⟩) N cw) vr L N (k + 1) (((xs.set (k * 3) (.int .i64 1)).set (k * 3 + 1) (.int .i64 ((k : Int) % 2))).set (k * 3 + 2) (.slice none 0 0)) := by
  have hxl : xs.length = N * 3 := h.wh.1
  have one : ∀ {W1 : World} {ys : List Value} (j : Nat) (v : Value), j < N * 3 → Bt3 W1 D 28 vi (.slice (some ⟨gw, 0, none⟩) N cw) vr → W1.ownsRow B 47 3 (.slice (some ⟨gw, 0, none⟩) N cw) N ys → Fx (Lwn (.slice (some ⟨gw, 0, none⟩) N cw) L) w W1 → Bt3 (W1.setCell ⟨gw, j, none⟩ v) D 28 vi (.slice (some ⟨gw, 0, none⟩) N cw) vr ∧ (W1.setCell ⟨gw, j, none⟩ v).ownsRow B 47 3 (.slice (some ⟨gw, 0, none⟩) N cw) N (ys.set j v) ∧ Fx (Lwn (.slice (some ⟨gw, 0, none⟩) N cw) L) w (W1.setCell ⟨gw, j, none⟩ v) := fun {W1 ys} j v hj hx hw hf => by
    have hg := grown_set W1 ⟨gw, j, none⟩ v
    exact ⟨hx.kept hg (hx.not_row (by decide) hw), own_cell hw hj v, hf.grown hg fun g e => .inl e.symm⟩
  obtain ⟨x1, w1, f1⟩ := one (k * 3) (.int .i64 1) (by omega) h.x h.wh h.f
  obtain ⟨x2, w2, f2⟩ := one (k * 3 + 1) (.int .i64 ((k : Int) % 2)) (by omega) x1 w1 f1
  obtain ⟨x3, w3, f3⟩ := one (k * 3 + 2) (.slice none 0 0) (by omega) x2 w2 f2
  refine ⟨x3, w3, fun j hj => ?_, f3⟩
  by_cases e : j = k
  · subst e
    refine ⟨?_, ?_, ?_⟩
    · rw [List.getElem?_set_ne (by omega), List.getElem?_set_ne (by omega), List.getElem?_set_self (by omega)]
    · rw [List.getElem?_set_ne (by omega), List.getElem?_set_self (by simp; omega)]
    · rw [List.getElem?_set_self (by simp; omega)]
  · obtain ⟨q0, q1, q2⟩ := h.o j (by omega)
    refine ⟨?_, ?_, ?_⟩
    · rw [List.getElem?_set_ne (by omega), List.getElem?_set_ne (by omega), List.getElem?_set_ne (by omega)]; exact q0
    · rw [List.getElem?_set_ne (by omega), List.getElem?_set_ne (by omega), List.getElem?_set_ne (by omega)]; exact q1
    · rw [List.getElem?_set_ne (by omega), List.getElem?_set_ne (by omega), List.getElem?_set_ne (by omega)]; exact q2
theorem Ow1.rde {B D N n : Nat} {w W W' : World} {vi vr : Value} {L : List Cls} {gw cw : Nat} {xs : List Value} {Q : Nat → Prop} (h : Ow1 B w W D vi (.slice (some ⟨gw, 0, none⟩) N cw) vr L N N xs) (hn : n ≤ N) (hN : N ≤ 2147483648) (hf : Fx Q W W') (hq : ¬ Q gw) : RdE W' (.slice (some ⟨gw, 0, none⟩) n cw) (ovT n) := by
  have hw : W'.ownsRow B 47 3 (.slice (some ⟨gw, 0, none⟩) N cw) N xs := row_kept h.wh fun k e => by
    have e1 : k = gw := by simpa [Value.ownBlock] using e
    exact hf.block k (h.wh.lt k e.symm).2 (by rw [e1]; exact hq)
  obtain ⟨h1, h2⟩ : N ≤ cw ∧ cw ≤ maxLen := by
    rcases hw.2 with ⟨e1, _⟩ | ⟨g', cap', cur, hv, hb', hg', r1, r2, r3, r4⟩
    · simp at e1
    · injection hv with _ _ e3; subst e3; exact ⟨r1, r2⟩
  refine ⟨by rw [ovT_len]; omega, _, cw, by rw [ovT_len], by rw [ovT_len]; omega, h2, fun _ => ⟨gw, 0, rfl, (hw.lt gw rfl).2, fun j hj => ?_⟩⟩
  rw [ovT_len] at hj
  obtain ⟨q0, q1, q2⟩ := h.o j (by omega)
  rw [ovT_at hj, Nat.zero_add]
  exact ⟨_, row_cell hw q0, row_cell hw q1, row_cell hw q2, Rd.nil _⟩
set_option maxRecDepth 100000 in
set_option maxHeartbeats 6400000 in
theorem overEntries_any (B : Nat) (vi vr : Value) (gw cw N : Nat) (L : List Cls) (E : List EW) (w : World) (h : Le B w (.slice (some ⟨gw, 0, none⟩) N cw) vr L E) (hN : E.length = N) (hN2 : N ≤ 2147483648) (hLn : L.length ≤ 2147483648) (hl : ∀ x ∈ L, x.2.length ≤ 35184372088832) (hB : B ≤ w.heap.size) :
    Calls Try.prog 19 #[.agg #[vi, .slice (some ⟨gw, 0, none⟩) N cw, vr]] w fun e w' => e = .returned (.tuple #[]) ∧ Fx (Lwn (.slice (some ⟨gw, 0, none⟩) N cw) L) w w' ∧ ∀ n, n ≤ N → ∀ (Q : Nat → Prop) W', Fx Q w' W' → ¬ Q gw → RdE W' (.slice (some ⟨gw, 0, none⟩) n cw) (ovT n) := by
  have H0 : Hid (Ov1 B w (w.alloc (.cells #[vi, .slice (some ⟨gw, 0, none⟩) N cw, vr] 28)) w.heap.size vi (.slice (some ⟨gw, 0, none⟩) N cw) vr L N (ecC E)) := by
    have h2 := h.below (below_box w (.cells #[vi, .slice (some ⟨gw, 0, none⟩) N cw, vr] 28))
    have h3 := h2.w
    rw [hN] at h3
    exact ⟨World.alloc_heap_new w _, h2.r.row, h3, fun j hj => ⟨_, rfl, h2.r.own _ (List.getElem_mem hj)⟩, (Fx.refl _ _).below (below_box _ _)⟩
  have HAp : Hid (ApartC L ∧ (∀ x ∈ L, x.2.length ≤ 35184372088832) ∧ B ≤ w.heap.size) := ⟨h.r.ap, hl, hB⟩
  obtain ⟨ar, cr, er⟩ := row_form h.r.row
  subst er
  have x1 := H0.out.x.c1
  have x2 := H0.out.x.c2
  clear h hl hN hB
  generalize ecC E = ws at *
  go_enter Try.func19, Try.ntmps19
  go_wp2
  generalize w.alloc (.cells #[vi, .slice (some ⟨gw, 0, none⟩) N cw, .slice ar L.length cr] 28) = W0 at *
  generalize hD : w.heap.size = D at H0 x1 x2 ⊢
  have HD : Hid (w.heap.size = D) := hD
  clear hD x1 x2
  go_loopg [2] L.length (fun q i' wr => ∃ k : Nat, k + q = L.length ∧ i' = .int .i64 k ∧ Ov1 B w wr D vi (.slice (some ⟨gw, 0, none⟩) N cw) (.slice ar L.length cr) L N ws)
  case atStart => exact ⟨0, by omega, rfl, H0.out⟩
  case round =>
    obtain ⟨k, hk, rfl, hov⟩ := hrel
    have HK : Hid (k + gk = L.length) := hk
    have H1 : Hid (Ov1 B w wr D vi (.slice (some ⟨gw, 0, none⟩) N cw) (.slice ar L.length cr) L N ws) := hov
    have x1 := hov.x.c1
    have x2 := hov.x.c2
    by_cases hlt : k < L.length
    · obtain ⟨X, hXl, hX⟩ := hov.o k hlt
      obtain ⟨gr, cr', er, r1, -, -⟩ := row_some hov.r (by omega)
      injection er with er _ er3
      subst er; subst er3
      have kc := row_cell hov.r (j := k) (x := (L[k]).1) (by rw [List.getElem?_map, List.getElem?_eq_getElem hlt]; rfl)
      obtain ⟨a1, c1, e1⟩ := own_form hX
      have HOv : Hid (Calls Try.prog 20 #[.slice a1 X.length c1] wr fun e w' => (∃ v, e = .returned v) ∧ Ov1 B w w' D vi (.slice (some ⟨gw, 0, none⟩) N cw) (.slice (some ⟨gr, 0, none⟩) L.length cr) L N ws) := by
        have h5 := over_any B (L[k]).1 X wr hX (by rw [hXl]; exact HAp.out.2.1 _ (List.getElem_mem hlt))
        rw [e1] at h5
        refine h5.mono ?_
        rintro e w' ⟨h6, ⟨Z, h7, h8⟩, h9⟩
        refine ⟨h6, H1.out.over HAp.out.1 hlt hX (h7.trans hXl) (by rw [e1]; exact h8) (by rw [e1]; exact h9)⟩
      rw [e1] at kc
      have HLT : Hid (k < L.length) := hlt
      clear hX hXl hov hk e1
      generalize X.length = xl at *
      go_wp2_with fail
      refine Calls.mono HOv.out ?_
      rintro e w1 ⟨⟨v1, rfl⟩, hov1⟩
      have H2 : Hid (Ov1 B w w1 D vi (.slice (some ⟨gw, 0, none⟩) N cw) (.slice (some ⟨gr, 0, none⟩) L.length cr) L N ws) := hov1
      clear hov1
      go_wp2
      go_roundg (gk - 1)
      case measure => have := HK.out; have := HLT.out; omega
      case rel => exact ⟨k + 1, by have := HK.out; have := HLT.out; omega, by go_num, H2.out⟩
    · have H3 : Hid (Ow1 B w wr D vi (.slice (some ⟨gw, 0, none⟩) N cw) (.slice ar L.length cr) L N 0 ws) := ⟨hov.x, hov.wh, fun j hj => (by omega), hov.f⟩
      clear hov hk
      go_wp2
      generalize wr = w5 at *
      generalize gk = G at *
      clear x1 x2
      go_loopg [3] N (fun q i' wr => ∃ (k2 : Nat) (xs : List Value), k2 + q = N ∧ i' = .int .i64 k2 ∧ Ow1 B w wr D vi (.slice (some ⟨gw, 0, none⟩) N cw) (.slice ar L.length cr) L N k2 xs)
      case atStart => exact ⟨0, ws, by omega, rfl, H3.out⟩
      case round =>
        obtain ⟨k2, xs, hk2, rfl, how⟩ := hrel
        have HJ : Hid (k2 + gk = N) := hk2
        have H4 : Hid (Ow1 B w wr D vi (.slice (some ⟨gw, 0, none⟩) N cw) (.slice ar L.length cr) L N k2 xs) := how
        have x1 := how.x.c1
        by_cases hl2 : k2 < N
        · have H5 := (show Hid _ from how.step hl2)
          have hxl : xs.length = N * 3 := how.wh.1
          have hcw : N ≤ cw := by
            rcases how.wh.2 with ⟨e1, _⟩ | ⟨g', cap', cur, hv, hb', hg', r1, r2, r3, r4⟩
            · simp at e1
            · injection hv with _ _ e3; omega
          obtain ⟨y0, hy0⟩ : ∃ y, xs[k2 * 3]? = some y := ⟨_, List.getElem?_eq_getElem (by omega)⟩
          obtain ⟨y1, hy1⟩ : ∃ y, xs[k2 * 3 + 1]? = some y := ⟨_, List.getElem?_eq_getElem (by omega)⟩
          obtain ⟨y2, hy2⟩ : ∃ y, xs[k2 * 3 + 2]? = some y := ⟨_, List.getElem?_eq_getElem (by omega)⟩
          have k0 := row_cell how.wh hy0
          have k1 := row_cell how.wh hy1
          have k3 := row_cell how.wh hy2
          have z0 := row_fz how.wh (k2 * 3)
          have z1 := row_fz how.wh (k2 * 3 + 1)
          have z2 := row_fz how.wh (k2 * 3 + 2)
          have hmod : ((k2 : Int)).tmod 2 = (k2 : Int) % 2 := by rw [Int.tmod_eq_emod_of_nonneg (by omega)]
          have HL2 : Hid (k2 < N) := hl2
          clear how hk2 hxl hy0 hy1 hy2
          go_wp2
          go_roundg (gk - 1)
          case measure => have := HJ.out; have := HL2.out; omega
          case rel => exact ⟨k2 + 1, _, by have := HJ.out; have := HL2.out; omega, by go_num, H5.out⟩
        · obtain rfl : k2 = N := by omega
          have HF : Hid (Fx (Lwn (.slice (some ⟨gw, 0, none⟩) k2 cw) L) w wr ∧ ∀ n, n ≤ k2 → ∀ (Q : Nat → Prop) W', Fx Q wr W' → ¬ Q gw → RdE W' (.slice (some ⟨gw, 0, none⟩) n cw) (ovT n)) := ⟨how.f, fun n hn Q W' hf hq => how.rde hn hN2 hf hq⟩
          clear how hk2
          go_wp2
          go_end0
          exact ⟨rfl, HF.out⟩
end Go.Proofs.Ytgngdohhlhlcpaa

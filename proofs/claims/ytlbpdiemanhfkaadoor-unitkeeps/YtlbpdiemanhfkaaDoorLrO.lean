/-
  depotkit.OverRows, walked.
  KEEP: set on app at below new trans refl start ap kept rd rds mono lt add none own nil put len pos setF setV putL putR other neV same_any row
-/
import Derived.Test.YtlbpdiemanhfkaaDoorLrK
set_option linter.unusedSimpArgs false
set_option linter.unusedVariables false
namespace Go.Proofs.YtlbpdiemanhfkaaDoor
open Go Go.RowKit Go.Shelf

/-- the blocks of rows that are lent -/
def Lown (vw vr : Value) (L : List Cls) (k : Nat) : Prop := some k = vw.ownBlock ∨ some k = vr.ownBlock ∨ ∃ x ∈ L, some k = x.1.ownBlock
/-- a step that leaves all but a set of blocks -/
structure Fr (Q : Nat → Prop) (w W : World) : Prop where
  os : W.os = w.os
  tape : W.tape = w.tape
  output : W.output = w.output
  size : w.heap.size ≤ W.heap.size
  block : ∀ k, k < w.heap.size → ¬ Q k → W.heap[k]? = w.heap[k]?
theorem Fr.refl (Q : Nat → Prop) (w : World) : Fr Q w w := ⟨rfl, rfl, rfl, Nat.le_refl _, fun _ _ _ => rfl⟩
theorem Fr.below {Q : Nat → Prop} {w W W' : World} (h : Fr Q w W) (hb : Below W.heap.size W W') : Fr Q w W' := ⟨hb.os.trans h.os, hb.tape.trans h.tape, hb.output.trans h.output, Nat.le_trans h.size hb.size, fun k hk hq => (hb.block k (Nat.lt_of_lt_of_le hk h.size)).trans (h.block k hk hq)⟩
theorem Fr.grown {Q : Nat → Prop} {w W W' : World} {row : Option Nat} (h : Fr Q w W) (hg : W.grownBy W' row) (hq : ∀ g, row = some g → Q g) : Fr Q w W' := ⟨hg.os.trans h.os, hg.tape.trans h.tape, hg.output.trans h.output, Nat.le_trans h.size hg.size, fun k hk hn => (hg.block k (Nat.lt_of_lt_of_le hk h.size) (fun e => hn (hq k e.symm))).trans (h.block k hk hn)⟩
structure Ov (B : Nat) (w W : World) (D : Nat) (vi vw vr : Value) (L : List Cls) (ws : List Value) : Prop where
  x : Bx3 W D 29 vi vw vr
  r : W.ownsRow B 25 1 vr L.length (L.map Prod.fst)
  wh : W.ownsRow B 25 1 vw ws.length ws
  o : ∀ (j : Nat) (hj : j < L.length), ∃ Z, Z.length = (L[j]).2.length ∧ Own B W (L[j]).1 Z
  f : Fr (Lown vw vr L) w W
theorem Ov.over {B D : Nat} {w W W' : World} {vi vw vr : Value} {L : List Cls} {ws : List Value} {k : Nat} {Z X : List Int} (h : Ov B w W D vi vw vr L ws) (hap : ApartC L) (hk : k < L.length) (ho : Own B W (L[k]).1 X) (hz : Z.length = (L[k]).2.length) (hz' : Own B W' (L[k]).1 Z) (hg : W.grownBy W' (L[k]).1.ownBlock) : Ov B w W' D vi vw vr L ws := by
  refine ⟨h.x.kept hg (h.x.not_row (by decide) ho), row_apart (by decide) h.r ho hg, row_apart (by decide) h.wh ho hg, fun j hj => ?_, h.f.grown hg fun g e => .inr (.inr ⟨L[k], List.getElem_mem hk, e.symm⟩)⟩
  by_cases e : j = k
  · subst e; exact ⟨Z, hz, hz'⟩
  · obtain ⟨Y, h1, h2⟩ := h.o j hj
    refine ⟨Y, h1, World.ownsRow.kept h2 hg ?_⟩
    have hp := List.pairwise_iff_getElem.1 hap
    rcases Nat.lt_or_gt_of_ne e with h3 | h3
    · exact hp j k hj hk h3
    · rcases hp k j hk hj h3 with h4 | h4
      · cases hv : (L[j]).1.ownBlock with
        | none => exact .inl rfl
        | some g => exact .inr (by rw [h4]; simp)
      · exact .inr (Ne.symm h4)
structure Ow (B : Nat) (w W : World) (D : Nat) (vi vw vr : Value) (L : List Cls) (k : Nat) (xs : List Value) : Prop where
  x : Bx3 W D 29 vi vw vr
  wh : W.ownsRow B 25 1 vw xs.length xs
  o : ∀ j, j < k → ∃ u, xs[j]? = some u ∧ Own B W u [1, -1, 2] ∧ ∀ g, u.ownBlock = some g → w.heap.size ≤ g
  f : Fr (Lown vw vr L) w W
theorem Ow.step {B D : Nat} {w W : World} {vi vr : Value} {L : List Cls} {k gw cw N : Nat} {xs : List Value} (h : Ow B w W D vi (.slice (some ⟨gw, 0, none⟩) N cw) vr L k xs) (hN : xs.length = N) (hk : k < N) (hB : B ≤ w.heap.size) :
    Ow B w ((W.alloc (.cells #[.int .i64 1, .int .i64 (-1), .int .i64 2] 3)).setCell ⟨gw, k, none⟩ (.slice (some ⟨W.heap.size, 0, none⟩) 3 3)) D vi (.slice (some ⟨gw, 0, none⟩) N cw) vr L (k + 1) (xs.set k (.slice (some ⟨W.heap.size, 0, none⟩) 3 3)) := by
  have hal := below_box W (.cells #[.int .i64 1, .int .i64 (-1), .int .i64 2] 3)
  have hw1 : (W.alloc (.cells #[.int .i64 1, .int .i64 (-1), .int .i64 2] 3)).ownsRow B 25 1 (.slice (some ⟨gw, 0, none⟩) N cw) N xs := by have := World.ownsRow.alloc h.wh (.cells #[.int .i64 1, .int .i64 (-1), .int .i64 2] 3); rw [hN] at this; exact this
  have hg := grown_set (W.alloc (.cells #[.int .i64 1, .int .i64 (-1), .int .i64 2] 3)) ⟨gw, k, none⟩ (.slice (some ⟨W.heap.size, 0, none⟩) 3 3)
  have hx1 := h.x.below hal
  have hnew : Own B (W.alloc (.cells #[.int .i64 1, .int .i64 (-1), .int .i64 2] 3)) (.slice (some ⟨W.heap.size, 0, none⟩) 3 3) [1, -1, 2] := ⟨rfl, .inr ⟨W.heap.size, 3, _, rfl, Nat.le_trans hB h.f.size, World.alloc_heap_new W _, Nat.le_refl _, by unfold maxLen; decide, rfl, rfl⟩⟩
  have keep : ∀ {u : Value} {Z : List Int}, Own B (W.alloc (.cells #[.int .i64 1, .int .i64 (-1), .int .i64 2] 3)) u Z → Own B ((W.alloc (.cells #[.int .i64 1, .int .i64 (-1), .int .i64 2] 3)).setCell ⟨gw, k, none⟩ (.slice (some ⟨W.heap.size, 0, none⟩) 3 3)) u Z := fun ho => own_rows (by decide) ho hw1 hg
  refine ⟨hx1.kept hg (hx1.not_row (by decide) hw1), ?_, fun j hj => ?_, (h.f.below hal).grown hg fun g e => .inl e.symm⟩
  · rw [List.length_set, hN]
    exact own_cell hw1 (by omega) _
  · by_cases e : k = j
    · subst e
      exact ⟨_, List.getElem?_set_self (by omega), keep hnew, fun g e => by cases e; exact h.f.size⟩
    · obtain ⟨u, h1, h2, h3⟩ := h.o j (by omega)
      exact ⟨u, by rw [List.getElem?_set_ne e]; exact h1, keep (h2.below hal), h3⟩
theorem over_rds {B : Nat} {W : World} {gw cw N n : Nat} {xs : List Value} (hw : W.ownsRow B 25 1 (.slice (some ⟨gw, 0, none⟩) N cw) N xs) (ho : ∀ j, j < N → ∃ u, xs[j]? = some u ∧ Own B W u [1, -1, 2]) (hn : n ≤ N) (hb : N ≤ 2147483648) : Rds W (.slice (some ⟨gw, 0, none⟩) n cw) (List.replicate n [1, -1, 2]) := by
  obtain ⟨g, c, e, h1, h2⟩ : ∃ g c, Value.slice (some ⟨gw, 0, none⟩) N cw = .slice (some ⟨g, 0, none⟩) N c ∧ N ≤ c ∧ c ≤ maxLen := by
    rcases hw.2 with ⟨e1, _⟩ | ⟨g', cap', cur, hv, hb', hg', r1, r2, r3, r4⟩
    · simp at e1
    · exact ⟨g', cap', hv, r1, r2⟩
  injection e with e1 _ e3
  subst e3
  refine ⟨by simp; omega, some ⟨gw, 0, none⟩, cw, by simp, by simp; omega, h2, by simp, fun hne => ⟨gw, 0, rfl, (hw.lt gw rfl).2, fun j hj => ?_⟩⟩
  have hj' : j < n := by simpa using hj
  obtain ⟨u, h3, h4⟩ := ho j (by omega)
  refine ⟨u, by rw [Nat.zero_add]; exact row_cell hw h3, ?_⟩
  have : (List.replicate n [(1 : Int), -1, 2]).getD j [] = [1, -1, 2] := by simp [List.getD_eq_getElem?_getD, hj']
  rw [this]
  exact h4.rd (by decide)
theorem Ow.rds {B D : Nat} {w W : World} {vi vr : Value} {L : List Cls} {gw cw N n : Nat} {xs : List Value} (h : Ow B w W D vi (.slice (some ⟨gw, 0, none⟩) N cw) vr L N xs) (hN : xs.length = N) (hn : n ≤ N) (hb : N ≤ 2147483648) : Rds W (.slice (some ⟨gw, 0, none⟩) n cw) (List.replicate n [1, -1, 2]) := by
  have hw := h.wh
  rw [hN] at hw
  exact over_rds hw (fun j hj => by obtain ⟨u, h1, h2, -⟩ := h.o j hj; exact ⟨u, h1, h2⟩) hn hb
/-- what was written over reads as it does whatever becomes of other lists -/
theorem Ow.rds2 {B D : Nat} {w W W' : World} {vi vr : Value} {L : List Cls} {gw cw N n : Nat} {xs : List Value} {Q : Nat → Prop} (h : Ow B w W D vi (.slice (some ⟨gw, 0, none⟩) N cw) vr L N xs) (hN : xs.length = N) (hn : n ≤ N) (hb : N ≤ 2147483648) (hf : Fr Q W W') (hq : ∀ k, Q k → k < w.heap.size ∧ k ≠ gw) : Rds W' (.slice (some ⟨gw, 0, none⟩) n cw) (List.replicate n [1, -1, 2]) := by
  have hw := h.wh
  rw [hN] at hw
  refine over_rds (row_kept hw fun k e => hf.block k (hw.lt k e.symm).2 (fun hk => (hq k hk).2 (by simpa [Value.ownBlock] using e))) (fun j hj => ?_) hn hb
  obtain ⟨u, h1, h2, h3⟩ := h.o j hj
  exact ⟨u, h1, row_kept h2 fun k e => hf.block k (h2.lt k e.symm).2 (fun hk => by have := (hq k hk).1; have := h3 k e.symm; omega)⟩
set_option maxRecDepth 100000 in
set_option maxHeartbeats 6400000 in
theorem overRows2_any (B : Nat) (vi vr : Value) (gw cw N : Nat) (L : List Cls) (ws : List Value) (M : List Cls) (w : World) (h : Lr B w (.slice (some ⟨gw, 0, none⟩) N cw) vr L ws M) (hN : ws.length = N) (hN2 : N ≤ 2147483648) (hLn : L.length ≤ 2147483648) (hl : ∀ x ∈ L, x.2.length ≤ 35184372088832) (hB : B ≤ w.heap.size) :
    Calls Tryd.prog 20 #[.agg #[vi, .slice (some ⟨gw, 0, none⟩) N cw, vr]] w fun e w' => e = .returned (.tuple #[]) ∧ Fr (Lown (.slice (some ⟨gw, 0, none⟩) N cw) vr L) w w' ∧ ∀ n, n ≤ N → ∀ (Q : Nat → Prop) W', Fr Q w' W' → (∀ k, Q k → k < w.heap.size ∧ k ≠ gw) → Rds W' (.slice (some ⟨gw, 0, none⟩) n cw) (List.replicate n [1, -1, 2]) := by
  have H0 : Hid (Ov B w (w.alloc (.cells #[vi, .slice (some ⟨gw, 0, none⟩) N cw, vr] 29)) w.heap.size vi (.slice (some ⟨gw, 0, none⟩) N cw) vr L ws) := by
    have h2 := h.below (below_box w (.cells #[vi, .slice (some ⟨gw, 0, none⟩) N cw, vr] 29))
    exact ⟨World.alloc_heap_new w _, h2.r.row, h2.w, fun j hj => ⟨_, rfl, h2.r.own _ (List.getElem_mem hj)⟩, (Fr.refl _ _).below (below_box _ _)⟩
  have HAp : Hid (ApartC L ∧ (∀ x ∈ L, x.2.length ≤ 35184372088832) ∧ ws.length = N ∧ B ≤ w.heap.size) := ⟨h.r.ap, hl, hN, hB⟩
  obtain ⟨ar, cr, er⟩ := row_form h.r.row
  subst er
  have x1 := H0.out.x.c1
  have x2 := H0.out.x.c2
  clear h hl hN hB
  go_enter Tryd.func20, Tryd.ntmps20
  go_wp2
  generalize w.alloc (.cells #[vi, .slice (some ⟨gw, 0, none⟩) N cw, .slice ar L.length cr] 29) = W0 at *
  generalize hD : w.heap.size = D at H0 x1 x2 ⊢
  have HD : Hid (w.heap.size = D) := hD
  clear hD x1 x2
  go_loopg [2] L.length (fun q i' wr => ∃ k : Nat, k + q = L.length ∧ i' = .int .i64 k ∧ Ov B w wr D vi (.slice (some ⟨gw, 0, none⟩) N cw) (.slice ar L.length cr) L ws)
  case atStart => exact ⟨0, by omega, rfl, H0.out⟩
  case round =>
    obtain ⟨k, hk, rfl, hov⟩ := hrel
    have HK : Hid (k + gk = L.length) := hk
    have H1 : Hid (Ov B w wr D vi (.slice (some ⟨gw, 0, none⟩) N cw) (.slice ar L.length cr) L ws) := hov
    have x1 := hov.x.c1
    have x2 := hov.x.c2
    by_cases hlt : k < L.length
    · obtain ⟨X, hXl, hX⟩ := hov.o k hlt
      obtain ⟨gr, cr', er, r1, -, -⟩ := row_some hov.r (by omega)
      injection er with er _ er3
      subst er; subst er3
      have kc := row_cell hov.r (j := k) (x := (L[k]).1) (by rw [List.getElem?_map, List.getElem?_eq_getElem hlt]; rfl)
      obtain ⟨a1, c1, e1⟩ := own_form hX
      have HOv : Hid (Calls Tryd.prog 21 #[.slice a1 X.length c1] wr fun e w' => (∃ v, e = .returned v) ∧ Ov B w w' D vi (.slice (some ⟨gw, 0, none⟩) N cw) (.slice (some ⟨gr, 0, none⟩) L.length cr) L ws) := by
        have h5 := over_any B (L[k]).1 X wr hX (by rw [hXl]; exact HAp.out.2.1 _ (List.getElem_mem hlt))
        rw [e1] at h5
        refine h5.mono ?_
        rintro e w' ⟨h6, ⟨Z, h7, h8⟩, h9⟩
        refine ⟨h6, H1.out.over HAp.out.1 hlt hX (h7.trans hXl) (by rw [e1]; exact h8) (by rw [e1]; exact h9)⟩
      rw [e1] at kc
      have HLT : Hid (k < L.length) := hlt
      clear hX hXl hov hk e1
      generalize X.length = xl at *
      go_wp2_with fail
      refine Calls.mono HOv.out ?_
      rintro e w1 ⟨⟨v1, rfl⟩, hov1⟩
      have H2 : Hid (Ov B w w1 D vi (.slice (some ⟨gw, 0, none⟩) N cw) (.slice (some ⟨gr, 0, none⟩) L.length cr) L ws) := hov1
      clear hov1
      go_wp2
      go_roundg (gk - 1)
      case measure => have := HK.out; have := HLT.out; omega
      case rel => exact ⟨k + 1, by have := HK.out; have := HLT.out; omega, by go_num, H2.out⟩
    · have H3 : Hid (Ow B w wr D vi (.slice (some ⟨gw, 0, none⟩) N cw) (.slice ar L.length cr) L 0 ws) := ⟨hov.x, hov.wh, fun j hj => (by omega), hov.f⟩
      clear hov hk
      go_wp2
      generalize wr = w5 at *
      generalize gk = G at *
      clear x1 x2
      go_loopg [3] N (fun q i' wr => ∃ (k2 : Nat) (xs : List Value), k2 + q = N ∧ i' = .int .i64 k2 ∧ xs.length = N ∧ Ow B w wr D vi (.slice (some ⟨gw, 0, none⟩) N cw) (.slice ar L.length cr) L k2 xs)
      case atStart => exact ⟨0, ws, by omega, rfl, HAp.out.2.2.1, H3.out⟩
      case round =>
        obtain ⟨k2, xs, hk2, rfl, hxl, how⟩ := hrel
        have HJ : Hid (k2 + gk = N) := hk2
        have HX : Hid (xs.length = N) := hxl
        have H4 : Hid (Ow B w wr D vi (.slice (some ⟨gw, 0, none⟩) N cw) (.slice ar L.length cr) L k2 xs) := how
        have x1 := how.x.c1
        by_cases hl2 : k2 < N
        · have H5 := (show Hid _ from how.step hxl hl2 HAp.out.2.2.2)
          have hxl2 : (xs.set k2 (.slice (some ⟨wr.heap.size, 0, none⟩) 3 3)).length = N := by rw [List.length_set]; exact hxl
          have HX2 := (show Hid _ from hxl2)
          have hw1 : (wr.alloc (.cells #[.int .i64 1, .int .i64 (-1), .int .i64 2] 3)).ownsRow B 25 1 (.slice (some ⟨gw, 0, none⟩) N cw) N xs := by have := World.ownsRow.alloc how.wh (.cells #[.int .i64 1, .int .i64 (-1), .int .i64 2] 3); rw [hxl] at this; exact this
          have hcw : N ≤ cw := by
            rcases hw1.2 with ⟨e1, _⟩ | ⟨g', cap', cur, hv, hb', hg', r1, r2, r3, r4⟩
            · simp at e1
            · injection hv with _ _ e3; omega
          obtain ⟨y, hy⟩ : ∃ y, xs[k2]? = some y := ⟨_, List.getElem?_eq_getElem (by omega)⟩
          have k1 := row_cell hw1 hy
          have k3 := row_fz hw1 k2
          have HL2 : Hid (k2 < N) := hl2
          clear how hk2 hxl hxl2 hw1 hy
          go_wp2
          go_roundg (gk - 1)
          case measure => have := HJ.out; have := HL2.out; omega
          case rel => exact ⟨k2 + 1, _, by have := HJ.out; have := HL2.out; omega, by go_num, HX2.out, H5.out⟩
        · obtain rfl : k2 = N := by omega
          have HF : Hid (Fr (Lown (.slice (some ⟨gw, 0, none⟩) k2 cw) (.slice ar L.length cr) L) w wr ∧ ∀ n, n ≤ k2 → ∀ (Q : Nat → Prop) W', Fr Q wr W' → (∀ k, Q k → k < w.heap.size ∧ k ≠ gw) → Rds W' (.slice (some ⟨gw, 0, none⟩) n cw) (List.replicate n [1, -1, 2])) := ⟨how.f, fun n hn Q W' hf hq => how.rds2 hxl hn hN2 hf hq⟩
          clear how hk2 hxl
          go_wp2
          go_end0
          exact ⟨rfl, HF.out⟩
theorem overRows_any (B : Nat) (vi vr : Value) (gw cw N : Nat) (L : List Cls) (ws : List Value) (M : List Cls) (w : World) (h : Lr B w (.slice (some ⟨gw, 0, none⟩) N cw) vr L ws M) (hN : ws.length = N) (hN2 : N ≤ 2147483648) (hLn : L.length ≤ 2147483648) (hl : ∀ x ∈ L, x.2.length ≤ 35184372088832) (hB : B ≤ w.heap.size) :
    Calls Tryd.prog 20 #[.agg #[vi, .slice (some ⟨gw, 0, none⟩) N cw, vr]] w fun e w' => e = .returned (.tuple #[]) ∧ Fr (Lown (.slice (some ⟨gw, 0, none⟩) N cw) vr L) w w' ∧ ∀ n, n ≤ N → Rds w' (.slice (some ⟨gw, 0, none⟩) n cw) (List.replicate n [1, -1, 2]) := by
  refine (overRows2_any B vi vr gw cw N L ws M w h hN hN2 hLn hl hB).mono ?_
  rintro e w' ⟨h1, h2, h3⟩
  exact ⟨h1, h2, fun n hn => h3 n hn (fun _ => False) w' (Fr.refl _ _) (fun k hk => hk.elim)⟩
end Go.Proofs.YtlbpdiemanhfkaaDoor

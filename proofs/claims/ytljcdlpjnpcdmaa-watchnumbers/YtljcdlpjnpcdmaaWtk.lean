/-
  watch, at one small formula: take.
  KEEP: set on app at below new trans refl start ap kept rd rds mono lt add none own nil put len pos setF setV putL putR other neV same_any
-/
import Derived.Test.YtljcdlpjnpcdmaaWrn
import Derived.Laws.MakeOwn
import Derived.OwnWalk
set_option linter.unusedSimpArgs false
set_option linter.unusedVariables false
namespace Go.Proofs.Ytljcdlpjnpcdmaa
open Go Go.RowKit

theorem infoCw : (Try.prog.info? 75).map (fun i => (i.zero, i.size, i.bytes)) = some (some (.agg #[.slice none 0 0, .int .i64 0, .int .i64 0]), 3, 40) := by kernel_rfl
theorem made_zeroW (z : Value) (m : Nat) : madeCells #[z] m = (List.replicate m z).toArray := by
  apply Array.ext'
  refine List.ext_getElem? fun i => ?_
  by_cases hi : i < m
  · simp [madeCells, hi, Nat.mod_one]
  · simp [madeCells, hi]

theorem made01 (w : World) : (Instr.makeSlice 50 (.int .i64 0) (.int .i64 1)).run Try.prog w = .ok (.slice (some ⟨w.heap.size, 0, none⟩) 0 1) (w.alloc (.cells #[.int .i32 0] 21)) := by
  obtain ⟨i, hi, hz, hs, hb⟩ := info_parts infoI32w
  have hr := run_make (P := Try.prog) w 50 21 i _ Try.underlying50 hi hz .i64 .i64 0 1 (by omega) (by omega) (by rw [hb]; omega) (by omega)
  simp only [hs] at hr
  have e : madeCells (Value.int .i32 0).cells (Int.toNat 1 * 1) = #[Value.int .i32 0] := by
    show madeCells #[Value.int .i32 0] 1 = _
    rw [made_zeroW]; rfl
  rw [e] at hr
  exact hr
/-- a new Watch of two variables, no clause -/
structure Ni (B : Nat) (W : World) (b : Nat) (Bl D : Value) : Prop where
  x : BxW W b (.slice none 0 0) (.slice none 0 0) Bl (.slice none 0 0) 0 D 0 false
  b : W.ownsRow B 21 1 Bl 4 [.int .i32 0, .int .i32 0, .int .i32 0, .int .i32 0]
  d : W.ownsRow B 52 2 D 1 [.int .i64 0, .slice none 0 0]
theorem Ni.below {B : Nat} {W W' : World} {b : Nat} {Bl D : Value} (h : Ni B W b Bl D) (hb : Below W.heap.size W W') : Ni B W' b Bl D := ⟨h.x.below hb, row_kept h.b fun k e => hb.block k (h.b.lt k e.symm).2, row_kept h.d fun k e => hb.block k (h.d.lt k e.symm).2⟩
theorem three_newW (w : World) (x y z : Value) (t : TypeId) : ∀ j u, [x, y, z][j]? = some u → (w.alloc (.cells #[x, y, z] t)).cell? ((⟨w.heap.size, 0, none⟩ : Addr).add j) = some u := fun j u hu => by
  rw [Addr.add_lit]
  have hh := World.alloc_heap_new w (.cells #[x, y, z] t)
  show (match (w.alloc (.cells #[x, y, z] t)).heap[w.heap.size]? with | some (Obj.cells c elem frozen) => c[0 + j]? | x => none) = _
  rw [hh]
  simpa using hu
/-- with a clause that waits -/
structure Nm (B : Nat) (W : World) (b : Nat) (Wt Bl D lit : Value) : Prop where
  x : BxW W b (.slice none 0 0) Wt Bl (.slice none 0 0) 0 D 0 false
  b : W.ownsRow B 21 1 Bl 4 [.int .i32 0, .int .i32 0, .int .i32 0, .int .i32 0]
  d : W.ownsRow B 52 2 D 1 [.int .i64 0, .slice none 0 0]
  l : W.ownsRow B 21 1 lit 1 [.int .i32 0]
  w : W.ownsRow B 21 1 Wt 1 [.int .i32 0]
  ap : (∀ g, lit.ownBlock = some g → Bl.ownBlock ≠ some g) ∧ (∀ g, Wt.ownBlock = some g → Bl.ownBlock ≠ some g)
theorem row_box {B b e s n j : Nat} {W : World} {v x : Value} {xs : List Value} (h : W.ownsRow B e s v n xs) (ht : TyW W b 58) (hne : 58 ≠ e) : (W.setCell ⟨b, j, none⟩ x).ownsRow B e s v n xs :=
  row_kept h fun k e1 => (grown_set W ⟨b, j, none⟩ x).block k (h.lt k e1.symm).2 (fun e2 => by simp at e2; subst e2; exact hne (ht.unique (row_tyW h e1)))
theorem tid_one : tid [1] = [1] := by decide
theorem row_below {B e s n : Nat} {W W' : World} {v : Value} {xs : List Value} (h : W.ownsRow B e s v n xs) (hb : Below W.heap.size W W') : W'.ownsRow B e s v n xs := row_kept h fun k e => hb.block k (h.lt k e.symm).2
set_option maxRecDepth 100000 in
set_option maxHeartbeats 3200000 in
theorem wTake_any (B b : Nat) (Bl D vc : Value) (w : World) (hb : B ≤ b) (hB : B ≤ w.heap.size) (hi : Ni B w b Bl D) (hr : Rd w vc [1]) :
    Calls Try.prog 21 #[.pointer (some ⟨b, 0, none⟩), vc] w fun e w' => e = .returned (.tuple #[]) ∧ ∃ C Wt lit, BxW w' b C Wt Bl (.slice none 0 0) 0 D 0 false ∧ Nr B w' C Wt Bl (.slice none 0 0) D lit (.slice none 0 0) 0 0 0 [0] [] [] ∧ Below B w w' := by
  have H0 : Hid (Ni B w b Bl D) := hi
  have HTd : Hid (Calls Try.prog 37 #[vc] w fun e w' => ∃ v', e = .returned v' ∧ Own w.heap.size w' v' [1] ∧ Below w.heap.size w w') := by
    have := tidy_any vc [1] w hr
    rw [tid_one] at this
    exact this
  clear hi hr
  go_enter Try.func21, Try.ntmps21
  go_wp2_with fail
  refine Calls.mono HTd.out ?_
  rintro e w1 ⟨u1, rfl, own1, bel1⟩
  obtain ⟨g1, c1, e1, l1, l2, l3⟩ := row_some own1 (by decide)
  have e1' : u1 = .slice (some ⟨g1, 0, none⟩) 1 c1 := e1
  subst e1'
  have k1 : w1.cell? ⟨g1, 0, none⟩ = some (.int .i64 1) := row_cell own1 (j := 0) rfl
  have H1 : Hid (Ni B w1 b Bl D ∧ Below w.heap.size w w1) := ⟨H0.out.below bel1, bel1⟩
  have hmk := made01 w1
  have ha1 : (w1.alloc (.cells #[.int .i32 0] 21)).cell? ⟨g1, 0, none⟩ = some (.int .i64 1) := ((below_box w1 _).cell (p := ⟨g1, 0, none⟩) l3).trans k1
  have H2 : Hid (Ni B (w1.alloc (.cells #[.int .i32 0] 21)) b Bl D ∧ Below w.heap.size w (w1.alloc (.cells #[.int .i32 0] 21)) ∧ (w1.alloc (.cells #[.int .i32 0] 21)).ownsRow w.heap.size 21 1 (.slice (some ⟨w1.heap.size, 0, none⟩) 0 1) 0 []) := ⟨H1.out.1.below (below_box _ _), Below.step bel1 (below_box _ _), ⟨rfl, .inr ⟨w1.heap.size, 1, _, rfl, bel1.size, World.alloc_heap_new w1 _, by omega, by unfold maxLen; decide, rfl, rfl⟩⟩⟩
  clear own1 bel1 e1 k1 l1 l2 H1 HTd
  go_wp2
  generalize w1.alloc (.cells #[.int .i32 0] 21) = w2 at *
  generalize w1.heap.size = g2 at *
  go_loopg [5, 7, 15] 1 (fun q a' x7 k' wr => ∃ k : Nat, k + q = 1 ∧ k' = .int .i64 k ∧ (k = 0 ∧ wr = w2 ∧ a' = .slice (some ⟨g2, 0, none⟩) 0 1 ∨ k = 1 ∧ ∃ gL cL, a' = .slice (some ⟨gL, 0, none⟩) 1 cL ∧ Ni B wr b Bl D ∧ Below w.heap.size w wr ∧ wr.ownsRow w.heap.size 21 1 (.slice (some ⟨gL, 0, none⟩) 1 cL) 1 [.int .i32 0]))
  case atStart => exact ⟨0, by omega, rfl, .inl ⟨rfl, rfl, rfl⟩⟩
  case round =>
    obtain ⟨k, hk, rfl, (⟨rfl, hwr, rfl⟩ | ⟨rfl, gL, cL, rfl, hi3, hb3, ho3⟩)⟩ := hrel
    · obtain rfl : w2 = wr := hwr.symm
      have hI1 : idx 1 = 0 := by decide
      obtain ⟨i3, hi3, hz3, hs3, hy3⟩ := info_parts infoI32w
      have HI3 : Hid (Try.prog.info? 21 = some i3 ∧ i3.zero = some (.int .i32 0) ∧ i3.size = 1 ∧ i3.bytes = 4) := ⟨hi3, hz3, hs3, hy3⟩
      have HNew : Hid (∀ j y, [Value.int .i32 0][j]? = some y → (w2.alloc (.cells #[.int .i32 0] 21)).cell? ((⟨w2.heap.size, 0, none⟩ : Addr).add j) = some y) := one_newW w2 (.int .i32 0) 21
      have HOw : Hid ((w2.alloc (.cells #[.int .i32 0] 21)).ownsRow w.heap.size 21 1 (.slice (some ⟨g2, 0, none⟩) 0 1) 0 []) := row_below H2.out.2.2 (below_box _ _)
      have HBs : Hid (w.heap.size ≤ (w2.alloc (.cells #[.int .i32 0] 21)).heap.size) := Nat.le_trans H2.out.2.1.size (below_box _ _).size
      have hB2 := hB
      have HAp : Hid (∀ v5 w5, w5.ownsRow w.heap.size 21 1 v5 1 [Value.int .i32 0] → Ap (w2.alloc (.cells #[.int .i32 0] 21)) (.slice (some ⟨g2, 0, none⟩) 0 1) w5 v5 → (∃ gL cL, v5 = .slice (some ⟨gL, 0, none⟩) 1 cL) ∧ Ni B w5 b Bl D ∧ Below w.heap.size w w5) := fun v5 w5 ho ha => by
        obtain ⟨gL, cL, e, -, -, -⟩ := row_some ho (by decide)
        have hb5 : Below w.heap.size w w5 := (Below.step H2.out.2.1 (below_box w2 _)).grown ha.grown HBs.out (fun q e => (HOw.out.lt q e).1)
        exact ⟨⟨gL, cL, e⟩, H0.out.below hb5, hb5⟩
      go_wp2_with fail
      refine (index_any 1 w2).mono ?_
      rintro e w3 ⟨rfl, hw3⟩
      obtain rfl : w2 = w3 := hw3.symm
      rw [hI1]
      clear hw3
      go_wp2_with (at_builtin; refine wpList_append_apk rfl _ _ 50 rfl w.heap.size 21 i3 (.int .i32 0) 1 4 Try.underlying50 HI3.out.1 HI3.out.2.1 HI3.out.2.2.1 HI3.out.2.2.2 rfl (by decide) (.slice (some ⟨g2, 0, none⟩) 0 1) 0 [] rfl HOw.out ⟨w2.heap.size, 0, none⟩ 1 1 [.int .i32 0] rfl rfl HNew.out (by simp [Value.oneCell']) (by unfold maxLen; decide) (by decide) HBs.out ?_; intro v5 w5 own5 ap5; have K5 := HAp.out _ w5 own5 ap5; obtain ⟨⟨gL, cL, hv5⟩, K6⟩ := K5; subst hv5; have F5 : Hid (Ni B w5 b Bl D ∧ Below w.heap.size w w5 ∧ w5.ownsRow w.heap.size 21 1 (.slice (some ⟨gL, 0, none⟩) 1 cL) 1 [.int .i32 0]) := ⟨K6.1, K6.2, own5⟩; clear K6 own5 ap5)
      go_roundg 0
      case measure => omega
      case rel => exact ⟨1, by omega, by go_num, .inr ⟨rfl, gL, cL, rfl, F5.out⟩⟩
    · have H3 : Hid (Ni B wr b Bl D ∧ Below w.heap.size w wr ∧ wr.ownsRow w.heap.size 21 1 (.slice (some ⟨gL, 0, none⟩) 1 cL) 1 [.int .i32 0]) := ⟨hi3, hb3, ho3⟩
      clear hi3 hb3 ho3 ha1 hmk H2
      obtain ⟨i3, hi3, hz3, hs3, hy3⟩ := info_parts infoI32w
      have HI3 : Hid (Try.prog.info? 21 = some i3 ∧ i3.zero = some (.int .i32 0) ∧ i3.size = 1 ∧ i3.bytes = 4) := ⟨hi3, hz3, hs3, hy3⟩
      have HNew : Hid (∀ j y, [Value.int .i32 0][j]? = some y → (wr.drew.alloc (.cells #[.int .i32 0] 21)).cell? ((⟨wr.drew.heap.size, 0, none⟩ : Addr).add j) = some y) := one_newW wr.drew (.int .i32 0) 21
      have HBs : Hid (B ≤ (wr.drew.alloc (.cells #[.int .i32 0] 21)).heap.size) := Nat.le_trans hB (Nat.le_trans H3.out.2.1.size (below_box wr.drew _).size)
      have HAp : Hid (∀ v5 w5, w5.ownsRow B 21 1 v5 1 [Value.int .i32 0] → Ap (wr.drew.alloc (.cells #[.int .i32 0] 21)) (.slice none 0 0) w5 v5 → w5.cell? ⟨b, 2, none⟩ = some (.slice none 0 0) ∧ w5.frozen? ⟨b, 2, none⟩ = false ∧ Nm B (w5.setCell ⟨b, 2, none⟩ v5) b v5 Bl D (.slice (some ⟨gL, 0, none⟩) 1 cL) ∧ Below B w (w5.setCell ⟨b, 2, none⟩ v5)) := fun v5 w5 ho ha => by
        have hbl : Below wr.heap.size wr w5 := ⟨ha.grown.os, ha.grown.tape, ha.grown.output, Nat.le_trans (below_box wr.drew _).size ha.grown.size, fun k hk => (ha.grown.block k (Nat.lt_of_lt_of_le hk (below_box wr.drew _).size) (by simp [Value.ownBlock])).trans ((below_box wr.drew _).block k hk)⟩
        have hi5 := H3.out.1.below hbl
        have hl5 := row_below H3.out.2.2 hbl
        have hfr : ∀ g', Bl.ownBlock = some g' → g' < w.heap.size := fun g' e => (H0.out.b.lt g' e).2
        refine ⟨hi5.x.cell 2 _ rfl, hi5.x.fz 2, ⟨hi5.x.set2 v5, row_box hi5.b hi5.x.ty (by decide), row_box hi5.d hi5.x.ty (by decide), row_box (row_mono hl5 hB) hi5.x.ty (by decide), row_box ho hi5.x.ty (by decide), fun g' e1 e2 => ?_, fun g' e1 e2 => ?_⟩, ?_⟩
        · have h1 := (H3.out.2.2.lt g' e1).1
          have h2 := hfr g' e2
          omega
        · have h2 := hfr g' e2
          have h3 := H3.out.2.1.size
          rcases ha.new with h4 | h4
          · rw [h4] at e1; simp [Value.ownBlock] at e1
          · have h5 := h4 g' e1
            have h6 := (below_box wr.drew (.cells #[.int .i32 0] 21)).size
            have h7 : wr.drew.heap.size = wr.heap.size := rfl
            omega
        · exact below_setW ((H3.out.2.1.mono hB).trans (hbl.mono (Nat.le_trans hB H3.out.2.1.size))) hb _
      have kb2 : wr.cell? ⟨b, 2, none⟩ = some (.slice none 0 0) := H3.out.1.x.cell 2 _ rfl
      have kb1 : wr.cell? ⟨b, 1, none⟩ = some (.slice none 0 0) := H3.out.1.x.cell 1 _ rfl
      have kbf : wr.frozen? ⟨b, 2, none⟩ = false := H3.out.1.x.fz 2
      have ab : Below wr.heap.size wr (wr.alloc (.cells #[.int .i32 0] 21)).drew := (below_box wr _).drew
      have ab1 : (wr.alloc (.cells #[.int .i32 0] 21)).drew.cell? ⟨b, 2, none⟩ = some (.slice none 0 0) := (H3.out.1.below ab).x.cell 2 _ rfl
      have ab2 : (wr.alloc (.cells #[.int .i32 0] 21)).drew.frozen? ⟨b, 2, none⟩ = false := (H3.out.1.below ab).x.fz 2
      have hw0 : IntKind.i32.wrap 0 = 0 := by decide
      have ac1 : (wr.alloc (.cells #[.int .i32 0] 21)).cell? ⟨b, 2, none⟩ = some (.slice none 0 0) := (H3.out.1.below (below_box wr _)).x.cell 2 _ rfl
      clear ab
      go_upto_region 7 with fail
      go_cut [] from 26 to 40 (fun wx => ∃ aW cW, Nm B wx b (.slice aW 1 cW) Bl D (.slice (some ⟨gL, 0, none⟩) 1 cL) ∧ Below B w wx)
      case first =>
        go_region_law (refine step_append_apk rfl (.tmp 30) (.tmp 37) 50 rfl B 21 i3 (.int .i32 0) 1 4 Try.underlying50 HI3.out.1 HI3.out.2.1 HI3.out.2.2.1 HI3.out.2.2.2 rfl (by decide) (.slice none 0 0) 0 [] (by simp [Act.eval, Act.put]) (World.ownsRow_nil _ _ _ _) ⟨wr.drew.heap.size, 0, none⟩ 1 1 [.int .i32 0] (by simp [Act.eval, Act.put]) rfl HNew.out (by simp [Value.oneCell']) (by unfold maxLen; decide) (by decide) HBs.out ?_; intro v5 w5 own5 ap5; obtain ⟨a5, c5, hv5⟩ := row_form' own5; subst hv5; have K5 := HAp.out _ w5 own5 ap5; have q1 := K5.1; have q2 := K5.2.1; have F5 : Hid (_ ∧ _) := K5.2.2; clear K5 own5 ap5)
        all_goals
          go_wp2_with fail
          go_meet
          exact ⟨_, _, F5.out⟩
      case rest =>
      obtain ⟨aW, cW, hm, hbm⟩ := hcut
      have HM : Hid (Nm B wc b (.slice aW 1 cW) Bl D (.slice (some ⟨gL, 0, none⟩) 1 cL) ∧ Below B w wc) := ⟨hm, hbm⟩
      have kc1 : wc.cell? ⟨b, 1, none⟩ = some (.slice none 0 0) := hm.x.cell 1 _ rfl
      clear hm hbm HAp HNew HBs kb2 kb1 kbf ab1 ab2 ac1 H3
      generalize wc = w6 at *
      obtain ⟨ic, hic, hzc, hsc, hyc⟩ := info_parts infoCw
      have HIc : Hid (Try.prog.info? 75 = some ic ∧ ic.zero = some (.agg #[.slice none 0 0, .int .i64 0, .int .i64 0]) ∧ ic.size = 3 ∧ ic.bytes = 40) := ⟨hic, hzc, hsc, hyc⟩
      have HNc : Hid (∀ j y, [Value.slice (some ⟨gL, 0, none⟩) 1 cL, .int .i64 0, .int .i64 0][j]? = some y → (w6.alloc (.cells #[.slice (some ⟨gL, 0, none⟩) 1 cL, .int .i64 0, .int .i64 0] 75)).cell? ((⟨w6.heap.size, 0, none⟩ : Addr).add j) = some y) := three_newW w6 _ _ _ _
      have HBc : Hid (B ≤ (w6.alloc (.cells #[.slice (some ⟨gL, 0, none⟩) 1 cL, .int .i64 0, .int .i64 0] 75)).heap.size) := Nat.le_trans hB (Nat.le_trans HM.out.2.size (below_box _ _).size)
      have HAc : Hid (∀ v5 w5, w5.ownsRow B 75 3 v5 1 [.slice (some ⟨gL, 0, none⟩) 1 cL, .int .i64 0, .int .i64 0] → Ap (w6.alloc (.cells #[.slice (some ⟨gL, 0, none⟩) 1 cL, .int .i64 0, .int .i64 0] 75)) (.slice none 0 0) w5 v5 → w5.cell? ⟨b, 1, none⟩ = some (.slice none 0 0) ∧ w5.frozen? ⟨b, 1, none⟩ = false ∧ BxW (w5.setCell ⟨b, 1, none⟩ v5) b v5 (.slice aW 1 cW) Bl (.slice none 0 0) 0 D 0 false ∧ Nr B (w5.setCell ⟨b, 1, none⟩ v5) v5 (.slice aW 1 cW) Bl (.slice none 0 0) D (.slice (some ⟨gL, 0, none⟩) 1 cL) (.slice none 0 0) 0 0 0 [0] [] [] ∧ Below B w (w5.setCell ⟨b, 1, none⟩ v5)) := fun v5 w5 ho ha => by
        have hbl : Below w6.heap.size w6 w5 := ⟨ha.grown.os, ha.grown.tape, ha.grown.output, Nat.le_trans (below_box w6 _).size ha.grown.size, fun k hk => (ha.grown.block k (Nat.lt_of_lt_of_le hk (below_box w6 _).size) (by simp [Value.ownBlock])).trans ((below_box w6 _).block k hk)⟩
        have hx5 := HM.out.1.x.below hbl
        refine ⟨hx5.cell 1 _ rfl, hx5.fz 1, hx5.set1 v5, ⟨row_box ho hx5.ty (by decide), row_box (row_below HM.out.1.l hbl) hx5.ty (by decide), row_box (row_below HM.out.1.w hbl) hx5.ty (by decide), row_box (row_below HM.out.1.b hbl) hx5.ty (by decide), World.ownsRow_nil _ _ _ _, row_box (row_below HM.out.1.d hbl) hx5.ty (by decide), World.ownsRow_nil _ _ _ _, HM.out.1.ap⟩, below_setW (HM.out.2.trans (hbl.mono (Nat.le_trans hB HM.out.2.size))) hb _⟩
      go_wp2_with (at_builtin; refine wpList_append_apk rfl _ _ 54 rfl B 75 ic (.agg #[.slice none 0 0, .int .i64 0, .int .i64 0]) 3 40 Try.underlying54 HIc.out.1 HIc.out.2.1 HIc.out.2.2.1 HIc.out.2.2.2 rfl (by decide) (.slice none 0 0) 0 [] rfl (World.ownsRow_nil _ _ _ _) ⟨w6.heap.size, 0, none⟩ 1 1 [.slice (some ⟨gL, 0, none⟩) 1 cL, .int .i64 0, .int .i64 0] rfl rfl HNc.out (by simp [Value.oneCell']) (by unfold maxLen; decide) (by decide) HBc.out ?_; intro v5 w5 own5 ap5; obtain ⟨a5, c5, hv5⟩ := row_form' own5; subst hv5; have K5 := HAc.out _ w5 own5 ap5; have q1 := K5.1; have q2 := K5.2.1; have F5 : Hid (_ ∧ _ ∧ _) := K5.2.2; clear K5 own5 ap5)
      go_end0
      exact ⟨rfl, _, _, _, F5.out⟩
end Go.Proofs.Ytljcdlpjnpcdmaa
